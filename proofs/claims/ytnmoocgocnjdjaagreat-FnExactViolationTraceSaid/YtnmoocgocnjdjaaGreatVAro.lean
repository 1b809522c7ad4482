/- WALKS: what may be written in a state graph: markArcS, toStateGraph once more, markStateGraph.
   ROWS OF ARCS of the call's own: append of one arc; what they read as; boxes, marks. -/
import Derived.Test.YtnmoocgocnjdjaaGreatVOvk
import Derived.Test.YtnmoocgocnjdjaaGreatVStgm
import Derived.Test.YtnmoocgocnjdjaaGreatVSgb
import Derived.Test.YtnmoocgocnjdjaaGreatVSgp
import Derived.Deep.RegionHeld3
namespace Go.Proofs.YtnmoocgocnjdjaaGreat
open Go.RowKit

theorem quad_put {w : World} {b c : Nat} {u0 u1 u2 u3 : Value} (v0 v1 v2 v3 : Value) (c0 : w.cell? ⟨b, c, none⟩ = some u0) (c1 : w.cell? ⟨b, c + 1, none⟩ = some u1) (c2 : w.cell? ⟨b, c + 2, none⟩ = some u2) (c3 : w.cell? ⟨b, c + 3, none⟩ = some u3) :
    ((((w.setCell ⟨b, c, none⟩ v0).setCell ⟨b, c + 1, none⟩ v1).setCell ⟨b, c + 2, none⟩ v2).setCell ⟨b, c + 3, none⟩ v3).cell? ⟨b, c, none⟩ = some v0 ∧
    ((((w.setCell ⟨b, c, none⟩ v0).setCell ⟨b, c + 1, none⟩ v1).setCell ⟨b, c + 2, none⟩ v2).setCell ⟨b, c + 3, none⟩ v3).cell? ⟨b, c + 1, none⟩ = some v1 ∧
    ((((w.setCell ⟨b, c, none⟩ v0).setCell ⟨b, c + 1, none⟩ v1).setCell ⟨b, c + 2, none⟩ v2).setCell ⟨b, c + 3, none⟩ v3).cell? ⟨b, c + 2, none⟩ = some v2 ∧
    ((((w.setCell ⟨b, c, none⟩ v0).setCell ⟨b, c + 1, none⟩ v1).setCell ⟨b, c + 2, none⟩ v2).setCell ⟨b, c + 3, none⟩ v3).cell? ⟨b, c + 3, none⟩ = some v3 ∧
    ∀ i v, i ≠ c → i ≠ c + 1 → i ≠ c + 2 → i ≠ c + 3 → w.cell? ⟨b, i, none⟩ = some v → ((((w.setCell ⟨b, c, none⟩ v0).setCell ⟨b, c + 1, none⟩ v1).setCell ⟨b, c + 2, none⟩ v2).setCell ⟨b, c + 3, none⟩ v3).cell? ⟨b, i, none⟩ = some v := by
  have far : ∀ {i i' : Nat}, i ≠ i' → (⟨b, i, none⟩ : Addr) ≠ ⟨b, i', none⟩ := fun h e => h (by injection e)
  obtain ⟨p0, p1, p2, pf⟩ := trip_put v0 v1 v2 c0 c1 c2
  have p3 := pf (c + 3) u3 (by omega) (by omega) (by omega) c3
  refine ⟨?_, ?_, ?_, World.cell?_setCell_same _ _ _ p3, fun i v h1 h2 h3 h4 h => ?_⟩
  · rw [World.cell?_setCell_other _ _ _ _ (far (by omega))]; exact p0
  · rw [World.cell?_setCell_other _ _ _ _ (far (by omega))]; exact p1
  · rw [World.cell?_setCell_other _ _ _ _ (far (by omega))]; exact p2
  · rw [World.cell?_setCell_other _ _ _ _ (far (fun e => h4 e.symm))]; exact pf i v h1 h2 h3 h

set_option maxHeartbeats 400000 in
theorem toArcS_row (v : Value) (ss : List Ar) (w : World) (lo : Nat) (hv : ArcsAt lo w v ss) (hn : ss.length ≤ 1048576) :
    Calls Tryz.prog 90 #[v] w (fun e w' => ∃ b, e = .returned (.slice (some ⟨b, 0, none⟩) ss.length ss.length) ∧ w.heap.size ≤ b ∧ b < w'.heap.size ∧ QuadRow b 138 w' ss.length ss.length (fun i => .int .i64 (arF ss i)) (fun i => .int .i64 (arS ss i)) (fun i => .bool (arU ss i)) (fun i => .int .i64 (arT ss i)) ∧ Below w.heap.size w w') := by
  obtain ⟨ao, cap, rfl, hc, hz⟩ := hv
  have hmk := run_make_arcs ss.length hn
  have HF := Lib.hid hz; clear hz
  go_enter Tryz.func90, Tryz.ntmps90
  go_wp2
  go_loopw [4] (fun i wr => ∃ k : Nat, k ≤ ss.length ∧ i = .int .i64 k ∧ QuadRow w.heap.size 138 wr ss.length k (fun i => .int .i64 (arF ss i)) (fun i => .int .i64 (arS ss i)) (fun i => .bool (arU ss i)) (fun i => .int .i64 (arT ss i)) ∧ Below w.heap.size w wr ∧ w.heap.size < wr.heap.size) (fun i _ => ss.length - (intOf i).toNat)
  case atStart =>
    obtain ⟨f, hf⟩ := rowIs_size (w := w) (t := 138) (size_madeCells #[.int .i64 0, .int .i64 0, .bool false, .int .i64 0] (ss.length * 4))
    exact ⟨0, Nat.zero_le _, rfl, ⟨f, hf, fun i hi => absurd hi (Nat.not_lt_zero _)⟩, (Below.refl _ _).alloc (Nat.le_refl _) _, by simp⟩
  case round =>
    obtain ⟨k, hk, rfl, hrow, hb1, hz1⟩ := hrel
    by_cases hlt : k < ss.length
    · rcases HF.out with h0 | ⟨b, off, rfl, hlo, hcell⟩
      · omega
      obtain ⟨c0, c1, c2, c3⟩ := hcell k hlt
      have d0 := Carries.of lo hb1 _ _ hlo c0
      have d1 := Carries.of lo hb1 _ _ hlo c1
      have d2 := Carries.of lo hb1 _ _ hlo c2
      have d3 := Carries.of lo hb1 _ _ hlo c3
      have HR := Lib.hid hrow
      clear hcell c0 c1 c2 c3 hrow
      go_wp2_with fail
      refine (toArc_any _ _ _ _ _).mono ?_
      rintro e w1 ⟨rfl, hb2⟩
      have hrow1 := HR.out.keep (hb2.block _ hz1)
      obtain ⟨y0, y1, y2, y3, e0, e1, e2, e3, f0, f1, f2, f3⟩ := hrow1.cells hlt
      have HR1 := Lib.hid hrow1
      have hz2 : w.heap.size < w1.heap.size := by have := hb2.size; omega
      have hw1 : Below w.heap.size w w1 := hb1.trans (hb2.mono (by omega))
      clear hrow1
      go_wp2_with fail
      go_roundw
      case rel => exact ⟨k + 1, by omega, by go_num, HR1.out.put hlt rfl rfl rfl rfl, by (repeat' (first | (with_reducible exact Below.refl _ _) | (with_reducible assumption) | (with_reducible refine Below.alloc ?_ ?_ _) | (with_reducible refine Below.drew ?_) | (with_reducible refine below_drewN ?_ _) | (with_reducible refine Below.setCell ?_ ?_ _) | go_size)), by simpa using hz2⟩
      case measure => simp [intOf]; omega
    · have hkk : k = ss.length := by omega
      subst hkk
      have HR := Lib.hid hrow; clear hrow
      go_wp2
      go_ret
      exact ⟨_, rfl, Nat.le_refl _, hz1, HR.out, hb1⟩

/-- the marks in arcs -/
def upArcs (k : Int) (n : Nat) : List Ar := (List.range n).map fun (i : Nat) => (k + 4 * (i : Int), k + 4 * (i : Int) + 1, ((k + 4 * (i : Int) + 1 + 1) % 3 == 0), k + 4 * (i : Int) + 1 + 1 + 1)
theorem upArcs_length (k : Int) (n : Nat) : (upArcs k n).length = n := by simp [upArcs]
theorem upArcs_get {k : Int} {n i : Nat} (h : i < n) : arF (upArcs k n) i = k + 4 * (i : Int) ∧ arS (upArcs k n) i = k + 4 * (i : Int) + 1 ∧ arU (upArcs k n) i = ((k + 4 * (i : Int) + 1 + 1) % 3 == 0) ∧ arT (upArcs k n) i = k + 4 * (i : Int) + 1 + 1 + 1 := by
  simp [arF, arS, arU, arT, upArcs, List.getD, h]

/-- an answer of toStateGraph: what it reads as; its parts lie one behind the other, and may be written -/
def SgOw (B : Nat) (w : World) (v : Value) (r : SgD) : Prop :=
  ∃ (m1 m2 : Nat) (vg vs vm : Value), v = .agg #[vg, vs, vm] ∧ B ≤ m1 ∧ m1 ≤ m2 ∧ m2 ≤ w.heap.size ∧ PairBox B m1 w vg r.sigs.length ∧ CellBox m1 m2 w vs r.codes.length 1 ∧ CellBox m2 w.heap.size w vm r.arcs.length 4 ∧ SgAt B w v r
theorem SgOw.at {B : Nat} {w : World} {v : Value} {r : SgD} (h : SgOw B w v r) : SgAt B w v r := by
  obtain ⟨_, _, _, _, _, _, _, _, _, _, _, _, h⟩ := h
  exact h
theorem PairBox.same {lo hi B : Nat} {w w' : World} {v : Value} {n : Nat} (h : PairBox lo hi w v n) (hs : Same B w w') (hB : B ≤ lo) : PairBox lo hi w' v n := by
  obtain ⟨ao, cap, hv, hz⟩ := h
  refine ⟨ao, cap, hv, ?_⟩
  rcases hz with hz | ⟨b, off, ha, q1, q2, hcell⟩
  · exact Or.inl hz
  · refine Or.inr ⟨b, off, ha, q1, q2, fun i hi => ?_⟩
    obtain ⟨⟨u, hu⟩, hf⟩ := hcell i hi
    have he := hs.2 b (by omega) (by have := cell_old hu; simpa using this)
    exact ⟨⟨u, (World.cell?_of_block (w := w) (w' := w') (a := ⟨b, off + i, none⟩) he).trans hu⟩, (World.frozen?_of_block (w := w) (w' := w') (a := ⟨b, off + i, none⟩) he).trans hf⟩

set_option maxRecDepth 100000 in
set_option maxHeartbeats 2000000 in
theorem toSg_ow (v : Value) (r : SgD) (w : World) (lo : Nat) (hv : SgAt lo w v r) (hs : SmallSg r) :
    Calls Tryz.prog 38 #[v] w (fun e w' => ∃ u, e = .returned u ∧ SgOw w.heap.size w' u r ∧ Below w.heap.size w w') := by
  obtain ⟨a0, c0, a1, c1, a2, c2, rfl, hg, hm, hl⟩ := hv.form
  clear hv
  obtain ⟨gs, ss, ls⟩ := r
  obtain ⟨k0, k1, k2⟩ := hs
  simp only at hg hm hl k0 k1 k2 ⊢
  have HD := Lib.hid hg; clear hg
  have HG := Lib.hid hm; clear hm
  have HL := Lib.hid hl; clear hl
  have K0 := Lib.hid k0; clear k0
  have K1 := Lib.hid k1; clear k1
  go_enter Tryz.func38, Tryz.ntmps38
  go_wp2_with fail
  refine (toSignalS_row _ gs _ lo (HD.out.keep ?_) K0.out.1).mono ?_
  · (repeat' (first | (with_reducible exact Carries.refl _ _) | (with_reducible assumption) | (with_reducible refine Carries.alloc ?_ _) | (with_reducible refine Carries.drew ?_) | (with_reducible refine Carries.drewN ?_ _) | (with_reducible refine Carries.set ?_ ?_ _) | go_size))
  rintro e w1 ⟨bg, rfl, hbg0, hbg1, hrow0, hb0⟩
  obtain ⟨hc, hf⟩ := bcell hb0
  have hw1 : Below w.heap.size w w1 := by
    refine Below.trans ?_ (hb0.mono ?_)
    · (repeat' (first | (with_reducible exact Below.refl _ _) | (with_reducible assumption) | (with_reducible refine Below.alloc ?_ ?_ _) | (with_reducible refine Below.drew ?_) | (with_reducible refine below_drewN ?_ _) | (with_reducible refine Below.setCell ?_ ?_ _) | go_size))
    · simp; omega
  have hbg2 : w.heap.size + 3 ≤ bg := by simp at hbg0; omega
  have hz1 : w.heap.size + 1 + 1 < w1.heap.size := by have := hb0.size; simp at this; omega
  have hz1a : w.heap.size + 1 < w1.heap.size := by omega
  have hz1b : w.heap.size < w1.heap.size := by omega
  have J0 := Lib.hid hrow0; clear hrow0
  go_wp2_with fail
  refine (toStringS_row _ ss _ lo (HG.out.keep (Carries.of lo ?_)) K1.out.1).mono ?_
  · (repeat' (first | (with_reducible exact Below.refl _ _) | (with_reducible assumption) | (with_reducible refine Below.alloc ?_ ?_ _) | (with_reducible refine Below.drew ?_) | (with_reducible refine below_drewN ?_ _) | (with_reducible refine Below.setCell ?_ ?_ _) | go_size))
  rintro e w2 ⟨bs, rfl, hbs0, hbs1, hrow1, hb1⟩
  obtain ⟨hc2, hf2⟩ := bcell hb1
  have hw2 : Below w.heap.size w w2 := by
    refine Below.trans ?_ (hb1.mono ?_)
    · (repeat' (first | (with_reducible exact Below.refl _ _) | (with_reducible assumption) | (with_reducible refine Below.alloc ?_ ?_ _) | (with_reducible refine Below.drew ?_) | (with_reducible refine below_drewN ?_ _) | (with_reducible refine Below.setCell ?_ ?_ _) | go_size))
    · simp; omega
  have hbs2 : w1.heap.size ≤ bs := by simpa using hbs0
  have hz2 : w1.heap.size ≤ w2.heap.size := by have := hb1.size; simpa using this
  have hz2z : w.heap.size + 1 + 1 < w2.heap.size := by omega
  have hz2a : w.heap.size + 1 < w2.heap.size := by omega
  have hz2b : w.heap.size < w2.heap.size := by omega
  have S12 := Lib.hid (show Same (w.heap.size + 3) w1 w2 from Same.trans (by (repeat' (first | (with_reducible exact Same.refl _ _) | (with_reducible assumption) | (with_reducible refine Same.alloc ?_ _) | (with_reducible refine Same.drew ?_) | (with_reducible refine Same.drewN ?_ _) | (with_reducible refine Same.set ?_ ?_ _) | go_size))) (Same.of _ hb1))
  have J1 := Lib.hid hrow1; clear hrow1
  go_wp2_with fail
  refine (toArcS_row _ ls _ lo (HL.out.keep (Carries.of lo ?_)) k2).mono ?_
  · (repeat' (first | (with_reducible exact Below.refl _ _) | (with_reducible assumption) | (with_reducible refine Below.alloc ?_ ?_ _) | (with_reducible refine Below.drew ?_) | (with_reducible refine below_drewN ?_ _) | (with_reducible refine Below.setCell ?_ ?_ _) | go_size))
  rintro e w3 ⟨bl, rfl, hbl0, hbl1, hrow2, hb2⟩
  obtain ⟨hc3, hf3⟩ := bcell hb2
  have hw3 : Below w.heap.size w w3 := by
    refine Below.trans ?_ (hb2.mono ?_)
    · (repeat' (first | (with_reducible exact Below.refl _ _) | (with_reducible assumption) | (with_reducible refine Below.alloc ?_ ?_ _) | (with_reducible refine Below.drew ?_) | (with_reducible refine below_drewN ?_ _) | (with_reducible refine Below.setCell ?_ ?_ _) | go_size))
    · simp; omega
  have hbl2 : w2.heap.size ≤ bl := by simpa using hbl0
  have hz3 : w2.heap.size ≤ w3.heap.size := by have := hb2.size; simpa using this
  have hz3a : w.heap.size + 1 + 1 < w3.heap.size := by omega
  have hz3b : w.heap.size + 1 < w3.heap.size := by omega
  have hz3c : w.heap.size < w3.heap.size := by omega
  have S23 := Lib.hid (show Same (w.heap.size + 3) w2 w3 from Same.trans (by (repeat' (first | (with_reducible exact Same.refl _ _) | (with_reducible assumption) | (with_reducible refine Same.alloc ?_ _) | (with_reducible refine Same.drew ?_) | (with_reducible refine Same.drewN ?_ _) | (with_reducible refine Same.set ?_ ?_ _) | go_size))) (Same.of _ hb2))
  have J2 := Lib.hid hrow2; clear hrow2
  go_wp2_with fail
  refine bodyPost_ret (v := .agg #[.slice (some ⟨bg, 0, none⟩) gs.length gs.length, .slice (some ⟨bs, 0, none⟩) ss.length ss.length, .slice (some ⟨bl, 0, none⟩) ls.length ls.length]) (by simp [results, Tryz.results38, go_sem, hc, hc2, hc3, hz1a, hz2a, hz3a, hz3b]) rfl ?_
  have fin : ∀ (X : World), Same (w.heap.size + 3) w3 X → Below w.heap.size w X → ∃ u, Ending.returned (.agg #[.slice (some ⟨bg, 0, none⟩) gs.length gs.length, .slice (some ⟨bs, 0, none⟩) ss.length ss.length, .slice (some ⟨bl, 0, none⟩) ls.length ls.length]) = .returned u ∧ SgOw w.heap.size X u ⟨gs, ss, ls⟩ ∧ Below w.heap.size w X := by
    intro X hX hB
    have x2 := S23.out.trans hX
    have x1 := S12.out.trans x2
    have row0 := J0.out.keep (w' := X) (x1.2 bg (by omega) hbg1)
    have row1 := World.rowIs.of_block J1.out (x2.2 bs (by omega) hbs1)
    have row2 := J2.out.keep (w' := X) (hX.2 bl (by omega) hbl1)
    have zX := hX.1
    obtain ⟨f2, hf2, _⟩ := id row2
    refine ⟨_, rfl, ⟨w1.heap.size, w2.heap.size, _, _, _, rfl, by omega, by omega, by omega, (PairRow.box row0).wide (by omega) (by omega), (row_box (n := ss.length) (sz := 1) row1 (by omega)).wide (by omega) (by omega), (row_box (n := ls.length) (sz := 4) hf2 rfl).wide (by omega) (by omega), ?_⟩, hB⟩
    exact ⟨_, _, _, rfl, (PairsAt.low row0.read (by omega) : SigsAt _ _ _ _), (texts_of_row row1 (fun i hi => by unfold scopied; rw [if_pos hi])).low (by omega), (QuadsAt.low row2.read (by omega) : ArcsAt _ _ _ _)⟩
  refine fin _ ?_ ?_
  · (repeat' (first | (with_reducible exact Same.refl _ _) | (with_reducible assumption) | (with_reducible refine Same.alloc ?_ _) | (with_reducible refine Same.drew ?_) | (with_reducible refine Same.drewN ?_ _) | (with_reducible refine Same.set ?_ ?_ _) | go_size))
  · (repeat' (first | (with_reducible exact Below.refl _ _) | (with_reducible assumption) | (with_reducible refine Below.alloc ?_ ?_ _) | (with_reducible refine Below.drew ?_) | (with_reducible refine below_drewN ?_ _) | (with_reducible refine Below.setCell ?_ ?_ _) | go_size))

end Go.Proofs.YtnmoocgocnjdjaaGreat

namespace Go.Proofs.YtnmoocgocnjdjaaGreat
open Go.RowKit

def arCells : List Ar → List Value
  | [] => []
  | m :: ms => .int .i64 m.1 :: .int .i64 m.2.1 :: .bool m.2.2.1 :: .int .i64 m.2.2.2 :: arCells ms
theorem arCells_length : ∀ ms : List Ar, (arCells ms).length = ms.length * 4
  | [] => rfl
  | m :: ms => by simp only [arCells, List.length_cons, arCells_length ms]; omega
theorem arCells_append : ∀ a b : List Ar, arCells (a ++ b) = arCells a ++ arCells b
  | [], _ => rfl
  | m :: ms, b => by simp only [List.cons_append, arCells, arCells_append ms b]
theorem arCells_get : ∀ (ms : List Ar) (i : Nat), i < ms.length → (arCells ms)[i * 4]? = some (.int .i64 (arF ms i)) ∧ (arCells ms)[i * 4 + 1]? = some (.int .i64 (arS ms i)) ∧ (arCells ms)[i * 4 + 2]? = some (.bool (arU ms i)) ∧ (arCells ms)[i * 4 + 3]? = some (.int .i64 (arT ms i))
  | [], i, h => absurd h (Nat.not_lt_zero _)
  | m :: ms, 0, _ => ⟨rfl, rfl, rfl, rfl⟩
  | m :: ms, i + 1, h => by
    have ih := arCells_get ms i (by simpa using h)
    have e1 : (i + 1) * 4 = i * 4 + 4 := by omega
    have s1 : arF (m :: ms) (i + 1) = arF ms i := by simp [arF]
    have s2 : arS (m :: ms) (i + 1) = arS ms i := by simp [arS]
    have s3 : arU (m :: ms) (i + 1) = arU ms i := by simp [arU]
    have s4 : arT (m :: ms) (i + 1) = arT ms i := by simp [arT]
    rw [e1, s1, s2, s3, s4]
    exact ⟨ih.1, ih.2.1, ih.2.2.1, ih.2.2.2⟩

abbrev ARow (B : Nat) (w : World) (v : Value) (ms : List Ar) : Prop := w.ownsRow B 138 4 v ms.length (arCells ms)
theorem ARow.form {B : Nat} {w : World} {v : Value} {ms : List Ar} (h : ARow B w v ms) : ∃ a c, v = .slice a ms.length c := by
  rcases h.2 with ⟨rfl, hn⟩ | ⟨g, cap, cur, rfl, _⟩
  · exact ⟨none, 0, by rw [hn]⟩
  · exact ⟨_, _, rfl⟩
theorem ARow.at {B : Nat} {w : World} {v : Value} {ms : List Ar} (h : ARow B w v ms) : ArcsAt B w v ms := by
  have h0 := h
  rcases h.2 with ⟨rfl, hn⟩ | ⟨g, cap, cur, rfl, hb, hg, hnc, _⟩
  · exact ⟨none, 0, by rw [hn], by omega, Or.inl hn⟩
  · refine ⟨_, _, rfl, hnc, Or.inr ⟨g, 0, rfl, hb, fun i hi => ⟨?_, ?_, ?_, ?_⟩⟩⟩
    · rw [Nat.zero_add, h0.cellAt (i * 4) (by omega)]; exact (arCells_get ms i hi).1
    · rw [Nat.zero_add, h0.cellAt (i * 4 + 1) (by omega)]; exact (arCells_get ms i hi).2.1
    · rw [Nat.zero_add, h0.cellAt (i * 4 + 2) (by omega)]; exact (arCells_get ms i hi).2.2.1
    · rw [Nat.zero_add, h0.cellAt (i * 4 + 3) (by omega)]; exact (arCells_get ms i hi).2.2.2
theorem ARow.box {B : Nat} {w : World} {v : Value} {ms : List Ar} (h : ARow B w v ms) : CellBox B w.heap.size w v ms.length 4 := by
  have h0 := h
  rcases h.2 with ⟨rfl, hn⟩ | ⟨g, cap, cur, rfl, hb, hg, hnc, _⟩
  · exact ⟨none, 0, by rw [hn], Or.inl hn⟩
  · refine ⟨_, _, rfl, Or.inr ⟨g, 0, rfl, hb, (Array.getElem?_eq_some_iff.1 hg).1, fun i hi => ⟨?_, ?_⟩⟩⟩
    · rw [Nat.zero_add, h0.cellAt i hi]
      exact ⟨_, List.getElem?_eq_getElem (by rw [arCells_length]; exact hi)⟩
    · exact h0.frozenAt _
theorem ARow.nil (B : Nat) (w : World) : ARow B w (.slice none 0 0) [] := World.ownsRow_nil _ _ _ _
theorem ARow.stir {B l k : Nat} {w w' : World} {v : Value} {ms : List Ar} (h : ARow B w v ms) (hs : Stir l k w w') (hk : k ≤ B) : ARow B w' v ms := by
  refine ⟨h.1, ?_⟩
  rcases h.2 with hn | ⟨g, cap, cur, rfl, hb, hg, rest⟩
  · exact Or.inl hn
  · exact Or.inr ⟨g, cap, cur, rfl, hb, (hs.block g (Array.getElem?_eq_some_iff.1 hg).1 (Or.inr (by omega))).trans hg, rest⟩
theorem ARow.cap {B : Nat} {w : World} {v : Value} {ms : List Ar} (h : ARow B w v ms) : ∃ a c, v = .slice a ms.length c ∧ ms.length ≤ c := by
  obtain ⟨a, c, rfl, hc, _⟩ := h.at
  exact ⟨a, c, rfl, hc⟩
theorem ARow.low {B B' : Nat} {w : World} {v : Value} {ms : List Ar} (h : ARow B w v ms) (hB : B' ≤ B) : ARow B' w v ms := by
  refine ⟨h.1, ?_⟩
  rcases h.2 with hn | ⟨g, cap, cur, rfl, hb, rest⟩
  · exact Or.inl hn
  · exact Or.inr ⟨g, cap, cur, rfl, Nat.le_trans hB hb, rest⟩

theorem run_append_ar (w : World) (ty : TypeId) (base : Nat) (v : Value) (n : Nat) (xs : List Value) (hown : w.ownsRow base 138 4 v n xs) (b : Nat) (u0 u1 u2 u3 : Value)
    (hc0 : w.cell? ⟨b, 0, none⟩ = some u0) (hc1 : w.cell? ⟨b, 1, none⟩ = some u1) (hc2 : w.cell? ⟨b, 2, none⟩ = some u2) (hc3 : w.cell? ⟨b, 3, none⟩ = some u3) (o0 : u0.oneCell' = true) (o1 : u1.oneCell' = true) (o2 : u2.oneCell' = true) (o3 : u3.oneCell' = true) (hn : n ≤ 1073741824) (hbase : base ≤ w.heap.size) :
    ∃ v' w', (Builtin.append_ #[78, 78] ty #[v, .slice (some ⟨b, 0, none⟩) 1 1]).run Tryz.prog w = .ok v' w' ∧ w'.ownsRow base 138 4 v' (n + 1) (xs ++ [u0, u1, u2, u3]) ∧ w.grownBy w' v.ownBlock := by
  obtain ⟨i, hi, hzz⟩ := Option.map_eq_some_iff.1 Tryz.infoAr
  simp only [Prod.mk.injEq] at hzz
  obtain ⟨hz, hs, hby⟩ := hzz
  obtain ⟨v', w', hr, h2, h3, _⟩ := run_append_own (P := Tryz.prog) w base 78 ty 138 i _ 4 32 Tryz.underlying78 hi hz hs hby rfl (by omega) v n xs hown ⟨b, 0, none⟩ 1 1 [u0, u1, u2, u3]
    rfl (fun j u hj => by
      match j, hj with
      | 0, hj => simp only [List.getElem?_cons_zero, Option.some.injEq] at hj; subst hj; exact hc0
      | 1, hj => simp only [List.getElem?_cons_succ, List.getElem?_cons_zero, Option.some.injEq] at hj; subst hj; exact hc1
      | 2, hj => simp only [List.getElem?_cons_succ, List.getElem?_cons_zero, Option.some.injEq] at hj; subst hj; exact hc2
      | 3, hj => simp only [List.getElem?_cons_succ, List.getElem?_cons_zero, Option.some.injEq] at hj; subst hj; exact hc3
      | (j + 4), hj => simp at hj) (fun u hu => by
      simp only [List.mem_cons, List.not_mem_nil, or_false] at hu
      rcases hu with rfl | rfl | rfl | rfl
      · exact o0
      · exact o1
      · exact o2
      · exact o3) (by unfold maxLen; omega) (by omega) hbase
  exact ⟨v', w', hr, h2, h3⟩

theorem wp_append_ar {o : Oper} {a : Act} {w : World} {K : Act → World → Prop} {Q : Exit → Act → World → Prop} (s x : Operand)
    (ho : o.op = .call { callee := .builtin .append, args := #[s, x], argTypes := #[78, 78] })
    (base : Nat) (v : Value) (ls : List Ar) (hs : a.eval s = v) (hown : ARow base w v ls) (b : Nat) (m : Ar) (hx : a.eval x = .slice (some ⟨b, 0, none⟩) 1 1)
    (hc0 : w.cell? ⟨b, 0, none⟩ = some (.int .i64 m.1)) (hc1 : w.cell? ⟨b, 1, none⟩ = some (.int .i64 m.2.1)) (hc2 : w.cell? ⟨b, 2, none⟩ = some (.bool m.2.2.1)) (hc3 : w.cell? ⟨b, 3, none⟩ = some (.int .i64 m.2.2.2)) (hn : ls.length ≤ 1073741824) (hbase : base ≤ w.heap.size)
    (h : ∀ v' w', ARow base w' v' (ls ++ [m]) → w.grownBy w' v.ownBlock → K (a.put o.dst v') w') : o.wp Tryz.prog a w K Q := by
  obtain ⟨v', w', hr, h2, h3⟩ := run_append_ar w o.type base v _ _ hown b _ _ _ _ hc0 hc1 hc2 hc3 rfl rfl rfl rfl hn hbase
  unfold Oper.wp execOp
  simp only [ho, resolve, invoke, builtin, Sem.run_bind, Sem.run_pure, Result.andThen_ok, List.map_toArray, List.map_cons, List.map_nil, hs, hx, hr]
  refine h v' w' ?_ h3
  show w'.ownsRow base _ 4 v' (ls ++ [m]).length (arCells (ls ++ [m]))
  rw [arCells_append, List.length_append]
  exact h2
theorem wpList_append_ar {ops : Array Oper} {rest : List Oper} {o : Oper} {a : Act} {w : World} {Q : Exit → Act → World → Prop} (hgd : o.guard = none) (s x : Operand)
    (ho : o.op = .call { callee := .builtin .append, args := #[s, x], argTypes := #[78, 78] })
    (base : Nat) (v : Value) (ls : List Ar) (hs : a.eval s = v) (hown : ARow base w v ls) (b : Nat) (m : Ar) (hx : a.eval x = .slice (some ⟨b, 0, none⟩) 1 1)
    (hc0 : w.cell? ⟨b, 0, none⟩ = some (.int .i64 m.1)) (hc1 : w.cell? ⟨b, 1, none⟩ = some (.int .i64 m.2.1)) (hc2 : w.cell? ⟨b, 2, none⟩ = some (.bool m.2.2.1)) (hc3 : w.cell? ⟨b, 3, none⟩ = some (.int .i64 m.2.2.2)) (hn : ls.length ≤ 1073741824) (hbase : base ≤ w.heap.size)
    (h : ∀ v' w', ARow base w' v' (ls ++ [m]) → w.grownBy w' v.ownBlock → wpList Tryz.prog ops Q rest (a.put o.dst v') w') : wpList Tryz.prog ops Q (o :: rest) a w :=
  wpList_plain hgd fun _ hK => wp_append_ar s x ho base v ls hs hown b m hx hc0 hc1 hc2 hc3 hn hbase fun v' w' h2 h3 => hK _ _ (h v' w' h2 h3)

theorem ArcsAt.bound {lo : Nat} {w : World} {v : Value} {ls : List Ar} (h : ArcsAt lo w v ls) : Bound w.heap.size v := by
  intro b off len cap hv hl
  obtain ⟨ao, cp, rfl, _, hz⟩ := h
  injection hv with h1 h2 h3
  rcases hz with hz | ⟨b', off', ha, hlo, hcell⟩
  · omega
  · rw [ha] at h1
    injection h1 with h1
    injection h1 with h1 h4 h5
    have := cell_old (hcell 0 (by omega)).1
    simp at this
    omega
theorem ArcsAt.stir {lo hi l k : Nat} {w w' : World} {v : Value} {ls : List Ar} (h : ArcsAt lo w v ls) (hB : Bound hi v) (hm : Stir l k w w') (hl : hi ≤ l) : ArcsAt lo w' v ls := by
  obtain ⟨ao, cap, rfl, hc, hz⟩ := h
  refine ⟨ao, cap, rfl, hc, ?_⟩
  rcases hz with hz | ⟨b, off, rfl, hlo, hcell⟩
  · exact Or.inl hz
  · by_cases h0 : ls.length = 0
    · exact Or.inl h0
    · have hbl := hB b off _ _ rfl (by omega)
      exact Or.inr ⟨b, off, rfl, hlo, fun i hi => ⟨hm.cell (Or.inl (by simp; omega)) (hcell i hi).1, hm.cell (Or.inl (by simp; omega)) (hcell i hi).2.1, hm.cell (Or.inl (by simp; omega)) (hcell i hi).2.2.1, hm.cell (Or.inl (by simp; omega)) (hcell i hi).2.2.2⟩⟩
theorem selfArcs (L : List Ar) : decide (L = L) = true := decide_eq_true rfl

/-! the arcs that leave a state -/
/-- of the first j arcs those that come from x -/
def leTo (ms : List Ar) (x : Int) (j : Nat) : List Ar := (ms.take j).filter (fun m => decide (m.1 = x))
theorem leTo_zero (ms : List Ar) (x : Int) : leTo ms x 0 = [] := by simp [leTo]
theorem leTo_yes {ms : List Ar} {x : Int} {j : Nat} (hj : j < ms.length) (h : arF ms j = x) : leTo ms x (j + 1) = leTo ms x j ++ [(arF ms j, arS ms j, arU ms j, arT ms j)] := by
  unfold leTo
  rw [List.take_succ_eq_append_getElem hj, List.filter_append, ← ar_getD hj, List.filter_cons_of_pos (by simpa using h), List.filter_nil]
theorem leTo_no {ms : List Ar} {x : Int} {j : Nat} (hj : j < ms.length) (h : ¬ arF ms j = x) : leTo ms x (j + 1) = leTo ms x j := by
  unfold leTo
  rw [List.take_succ_eq_append_getElem hj, List.filter_append, ← ar_getD hj, List.filter_cons_of_neg (by simpa using h), List.filter_nil, List.append_nil]
theorem leTo_length (ms : List Ar) (x : Int) (j : Nat) : (leTo ms x j).length ≤ j := by
  unfold leTo
  exact Nat.le_trans (List.length_filter_le _ _) (List.length_take_le _ _)
def leL (r : SgD) (x : Int) : List Ar := leTo r.arcs x r.arcs.length
def afB (r : SgD) (x : Int) : Bool := goodG r && decide (0 ≤ x ∧ x < (r.codes.length : Int))
def afL (r : SgD) (x : Int) : List Ar := if afB r x = true then leL r x else []
theorem afL_no {r : SgD} {x : Int} (h : afB r x = false) : afL r x = [] := by unfold afL; rw [h]; rfl
theorem afL_yes {r : SgD} {x : Int} (h : afB r x = true) : afL r x = leL r x := by unfold afL; rw [h]; rfl
theorem afL_small {r : SgD} {x : Int} (h : SmallSg r) : (afL r x).length ≤ 1048576 := by
  unfold afL
  by_cases hb : afB r x = true
  · rw [if_pos hb]; exact Nat.le_trans (leTo_length _ _ _) h.2.2
  · rw [if_neg hb]; exact Nat.zero_le _

/-- a call returns arcs of its own, and this bool; arcs of its own alone -/
def RetAr (w : World) (l : List Ar) (b : Bool) (e : Ending) (w' : World) : Prop := ∃ v, e = .returned (.tuple #[v, .bool b]) ∧ ARow w.heap.size w' v l ∧ Below w.heap.size w w'
def RetArO (w : World) (l : List Ar) (e : Ending) (w' : World) : Prop := ∃ v, e = .returned v ∧ ARow w.heap.size w' v l ∧ Below w.heap.size w w'

end Go.Proofs.YtnmoocgocnjdjaaGreat
