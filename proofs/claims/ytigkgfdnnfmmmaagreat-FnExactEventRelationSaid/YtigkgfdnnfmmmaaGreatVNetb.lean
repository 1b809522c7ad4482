/- WALKS: toStringS of the laws; make of moves.
   PLAIN PART: slices of quadruples of cells (arcs), a row of them that is filled from the front; a state graph as data. No program is named here.
   WALKS: toArc, toArcS, toStateGraph of the laws.
   WALKS: szTransition, szTransitionS, szNet. -/
import Derived.Test.YtigkgfdnnfmmmaaGreatVRgd
import Derived.Test.YtigkgfdnnfmmmaaGreatVNeta
namespace Go.Proofs.YtigkgfdnnfmmmaaGreat
open Go.RowKit

theorem Tryz.infoStr : (Tryz.prog.info? 9).map (fun i => (i.zero, i.size, i.bytes)) = some (some (.string ByteArray.empty), 1, 16) := by kernel_rfl
end Go.Proofs.YtigkgfdnnfmmmaaGreat

namespace Go.Proofs.YtigkgfdnnfmmmaaGreat
open Go.RowKit

/-- what a slice of n quadruples reads as; its cells lie from block lo on -/
def QuadsAt (lo : Nat) (w : World) (v : Value) (n : Nat) (x y z t : Nat → Value) : Prop :=
  ∃ (ao : Option Addr) (cap : Nat), v = .slice ao n cap ∧ n ≤ cap ∧
    (n = 0 ∨ ∃ b off, ao = some ⟨b, off, none⟩ ∧ lo ≤ b ∧ ∀ i, i < n → w.cell? ⟨b, off + i * 4, none⟩ = some (x i) ∧ w.cell? ⟨b, off + i * 4 + 1, none⟩ = some (y i) ∧ w.cell? ⟨b, off + i * 4 + 2, none⟩ = some (z i) ∧ w.cell? ⟨b, off + i * 4 + 3, none⟩ = some (t i))
theorem QuadsAt.keep {lo : Nat} {w w' : World} {v : Value} {n : Nat} {x y z t : Nat → Value} (h : QuadsAt lo w v n x y z t) (hb : Carries lo w w') : QuadsAt lo w' v n x y z t := by
  obtain ⟨ao, cap, hv, hc, hz⟩ := h
  refine ⟨ao, cap, hv, hc, ?_⟩
  rcases hz with hz | ⟨b, off, ha, hlo, hcell⟩
  · exact Or.inl hz
  · exact Or.inr ⟨b, off, ha, hlo, fun i hi => ⟨hb _ _ hlo (hcell i hi).1, hb _ _ hlo (hcell i hi).2.1, hb _ _ hlo (hcell i hi).2.2.1, hb _ _ hlo (hcell i hi).2.2.2⟩⟩
theorem QuadsAt.low {lo lo' : Nat} {w : World} {v : Value} {n : Nat} {x y z t : Nat → Value} (h : QuadsAt lo w v n x y z t) (hl : lo' ≤ lo) : QuadsAt lo' w v n x y z t := by
  obtain ⟨ao, cap, hv, hc, hz⟩ := h
  refine ⟨ao, cap, hv, hc, ?_⟩
  rcases hz with hz | ⟨b, off, ha, hlo, hcell⟩
  · exact Or.inl hz
  · exact Or.inr ⟨b, off, ha, Nat.le_trans hl hlo, hcell⟩
/-- the first k quadruples of the row b of n quadruples are there -/
def QuadRow (b : Nat) (t : TypeId) (w : World) (n k : Nat) (x y z u : Nat → Value) : Prop := ∃ f, w.rowIs b t (n * 4) f ∧ ∀ i, i < k → f (i * 4) = x i ∧ f (i * 4 + 1) = y i ∧ f (i * 4 + 2) = z i ∧ f (i * 4 + 3) = u i
theorem QuadRow.keep {b : Nat} {t : TypeId} {w w' : World} {n k : Nat} {x y z u : Nat → Value} (h : QuadRow b t w n k x y z u) (hb : w'.heap[b]? = w.heap[b]?) : QuadRow b t w' n k x y z u := by
  obtain ⟨f, hr, ht⟩ := h
  exact ⟨f, hr.of_block hb, ht⟩
theorem QuadRow.cells {b : Nat} {t : TypeId} {w : World} {n k : Nat} {x y z u : Nat → Value} (h : QuadRow b t w n k x y z u) {i : Nat} (hi : i < n) : ∃ v0 v1 v2 v3, w.cell? ⟨b, i * 4, none⟩ = some v0 ∧ w.cell? ⟨b, i * 4 + 1, none⟩ = some v1 ∧ w.cell? ⟨b, i * 4 + 2, none⟩ = some v2 ∧ w.cell? ⟨b, i * 4 + 3, none⟩ = some v3 ∧ w.frozen? ⟨b, i * 4, none⟩ = false ∧ w.frozen? ⟨b, i * 4 + 1, none⟩ = false ∧ w.frozen? ⟨b, i * 4 + 2, none⟩ = false ∧ w.frozen? ⟨b, i * 4 + 3, none⟩ = false := by
  obtain ⟨f, hr, ht⟩ := h
  exact ⟨_, _, _, _, hr.cell (by omega), hr.cell (by omega), hr.cell (by omega), hr.cell (by omega), hr.frozen _, hr.frozen _, hr.frozen _, hr.frozen _⟩
theorem QuadRow.put {b : Nat} {t : TypeId} {w : World} {n k : Nat} {x y z u : Nat → Value} (h : QuadRow b t w n k x y z u) {v0 v1 v2 v3 : Value} (hk : k < n) (h0 : v0 = x k) (h1 : v1 = y k) (h2 : v2 = z k) (h3 : v3 = u k) :
    QuadRow b t ((((w.setCell ⟨b, k * 4, none⟩ v0).setCell ⟨b, k * 4 + 1, none⟩ v1).setCell ⟨b, k * 4 + 2, none⟩ v2).setCell ⟨b, k * 4 + 3, none⟩ v3) n (k + 1) x y z u := by
  obtain ⟨f, hr, hx⟩ := h
  refine ⟨_, (((hr.set (k * 4) v0).set (k * 4 + 1) v1).set (k * 4 + 2) v2).set (k * 4 + 3) v3, fun i hi => ?_⟩
  by_cases e : i = k
  · subst e
    simp [show ¬ i * 4 = i * 4 + 1 by omega, show ¬ i * 4 = i * 4 + 2 by omega, show ¬ i * 4 = i * 4 + 3 by omega, h0, h1, h2, h3]
  · have hne : ∀ p q : Nat, p < 4 → q < 4 → ¬ i * 4 + p = k * 4 + q := fun p q hp hq => by omega
    have z0 : ∀ q : Nat, q < 4 → ¬ i * 4 = k * 4 + q := fun q hq => by omega
    have a0 : ∀ p : Nat, p < 4 → ¬ i * 4 + p = k * 4 := fun p hp => by omega
    have aa : ¬ i * 4 = k * 4 := by omega
    simp only [if_neg (hne 1 1 (by omega) (by omega)), if_neg (hne 1 2 (by omega) (by omega)), if_neg (hne 1 3 (by omega) (by omega)), if_neg (hne 2 1 (by omega) (by omega)), if_neg (hne 2 2 (by omega) (by omega)), if_neg (hne 2 3 (by omega) (by omega)), if_neg (hne 3 1 (by omega) (by omega)), if_neg (hne 3 2 (by omega) (by omega)), if_neg (hne 3 3 (by omega) (by omega)), if_neg (z0 1 (by omega)), if_neg (z0 2 (by omega)), if_neg (z0 3 (by omega)), if_neg (a0 1 (by omega)), if_neg (a0 2 (by omega)), if_neg (a0 3 (by omega)), if_neg aa]
    exact hx i (by omega)
theorem QuadRow.read {b : Nat} {t : TypeId} {w : World} {n : Nat} {x y z u : Nat → Value} (h : QuadRow b t w n n x y z u) : QuadsAt b w (.slice (some ⟨b, 0, none⟩) n n) n x y z u := by
  obtain ⟨f, hr, ht⟩ := h
  refine ⟨_, _, rfl, Nat.le_refl _, Or.inr ⟨b, 0, rfl, Nat.le_refl _, fun i hi => ⟨?_, ?_, ?_, ?_⟩⟩⟩
  · rw [Nat.zero_add, hr.cell (by omega), (ht i hi).1]
  · rw [Nat.zero_add, hr.cell (by omega), (ht i hi).2.1]
  · rw [Nat.zero_add, hr.cell (by omega), (ht i hi).2.2.1]
  · rw [Nat.zero_add, hr.cell (by omega), (ht i hi).2.2.2]

/-- an arc: from, signal, up, to -/
abbrev Ar := Int × Int × Bool × Int
def arF (ms : List Ar) (i : Nat) : Int := (ms.getD i (0, 0, false, 0)).1
def arS (ms : List Ar) (i : Nat) : Int := (ms.getD i (0, 0, false, 0)).2.1
def arU (ms : List Ar) (i : Nat) : Bool := (ms.getD i (0, 0, false, 0)).2.2.1
def arT (ms : List Ar) (i : Nat) : Int := (ms.getD i (0, 0, false, 0)).2.2.2
theorem ar_getD {zs : List Ar} {i : Nat} (h : i < zs.length) : (arF zs i, arS zs i, arU zs i, arT zs i) = zs[i] := by simp [arF, arS, arU, arT, List.getD, h]
def ArcsAt (lo : Nat) (w : World) (v : Value) (ms : List Ar) : Prop := QuadsAt lo w v ms.length (fun i => .int .i64 (arF ms i)) (fun i => .int .i64 (arS ms i)) (fun i => .bool (arU ms i)) (fun i => .int .i64 (arT ms i))
theorem ArcsAt.keep {lo : Nat} {w w' : World} {v : Value} {ss : List Ar} (h : ArcsAt lo w v ss) (hb : Carries lo w w') : ArcsAt lo w' v ss := QuadsAt.keep h hb
theorem ArcsAt.low {lo lo' : Nat} {w : World} {v : Value} {ss : List Ar} (h : ArcsAt lo w v ss) (hl : lo' ≤ lo) : ArcsAt lo' w v ss := QuadsAt.low h hl
theorem ArcsAt.form {lo : Nat} {w : World} {v : Value} {ss : List Ar} (h : ArcsAt lo w v ss) : ∃ a c, v = .slice a ss.length c := by
  obtain ⟨a, c, rfl, _, _⟩ := h
  exact ⟨a, c, rfl⟩
def RetArcs (w : World) (ms : List Ar) (e : Ending) (w' : World) : Prop := ∃ v, e = .returned v ∧ ArcsAt w.heap.size w' v ms ∧ Below w.heap.size w w'
theorem SigsAt.form {lo : Nat} {w : World} {v : Value} {ss : List Sig} (h : SigsAt lo w v ss) : ∃ a c, v = .slice a ss.length c := by
  obtain ⟨a, c, rfl, _, _⟩ := h
  exact ⟨a, c, rfl⟩

/-- a state graph as data -/
structure SgD where
  sigs : List Sig
  codes : List ByteArray
  arcs : List Ar

/-- numbers that fit, names and codes that are no longer than any string -/
def OkArcs (ms : List Ar) : Prop := ms.length ≤ 9223372036854775807 ∧ ∀ i, i < ms.length → (-9223372036854775808 ≤ arF ms i ∧ arF ms i ≤ 9223372036854775807) ∧ (-9223372036854775808 ≤ arS ms i ∧ arS ms i ≤ 9223372036854775807) ∧ (-9223372036854775808 ≤ arT ms i ∧ arT ms i ≤ 9223372036854775807)
def OkSg (r : SgD) : Prop := OkSigs r.sigs ∧ OkTexts r.codes ∧ OkArcs r.arcs
def SmallSg (r : SgD) : Prop := SmallSigs r.sigs ∧ SmallTexts r.codes ∧ r.arcs.length ≤ 1048576

def SgAt (lo : Nat) (w : World) (v : Value) (r : SgD) : Prop := ∃ vg vs vm, v = .agg #[vg, vs, vm] ∧ SigsAt lo w vg r.sigs ∧ TextsAt lo w vs r.codes ∧ ArcsAt lo w vm r.arcs
theorem SgAt.keep {lo : Nat} {w w' : World} {v : Value} {r : SgD} (h : SgAt lo w v r) (hb : Carries lo w w') : SgAt lo w' v r := by
  obtain ⟨vg, vs, vm, hv, h0, h1, h2⟩ := h
  exact ⟨vg, vs, vm, hv, h0.keep hb, h1.keep hb, h2.keep hb⟩
theorem SgAt.low {lo lo' : Nat} {w : World} {v : Value} {r : SgD} (h : SgAt lo w v r) (hl : lo' ≤ lo) : SgAt lo' w v r := by
  obtain ⟨vg, vs, vm, hv, h0, h1, h2⟩ := h
  exact ⟨vg, vs, vm, hv, h0.low hl, h1.low hl, h2.low hl⟩
theorem SgAt.form {lo : Nat} {w : World} {v : Value} {r : SgD} (h : SgAt lo w v r) : ∃ a0 c0 a1 c1 a2 c2, v = .agg #[.slice a0 r.sigs.length c0, .slice a1 r.codes.length c1, .slice a2 r.arcs.length c2] ∧ SigsAt lo w (.slice a0 r.sigs.length c0) r.sigs ∧ TextsAt lo w (.slice a1 r.codes.length c1) r.codes ∧ ArcsAt lo w (.slice a2 r.arcs.length c2) r.arcs := by
  obtain ⟨vg, vs, vm, rfl, h0, h1, h2⟩ := h
  obtain ⟨a0, c0, rfl⟩ := h0.form
  obtain ⟨a1, c1, rfl⟩ := h1.form
  obtain ⟨a2, c2, rfl⟩ := h2.form
  exact ⟨a0, c0, a1, c1, a2, c2, rfl, h0, h1, h2⟩
def RetSg (w : World) (r : SgD) (e : Ending) (w' : World) : Prop := ∃ v, e = .returned v ∧ SgAt w.heap.size w' v r ∧ Below w.heap.size w w'

end Go.Proofs.YtigkgfdnnfmmmaaGreat

namespace Go.Proofs.YtigkgfdnnfmmmaaGreat
open Go.RowKit

end Go.Proofs.YtigkgfdnnfmmmaaGreat

namespace Go.Proofs.YtigkgfdnnfmmmaaGreat
open Go.RowKit

/-- a size count: either negative, or what is left; then the lists are small -/
def RetSz (w : World) (left : Int) (P : Prop) (e : Ending) (w' : World) : Prop := ∃ r : Int, e = .returned (.int .i64 r) ∧ (r = -1 ∨ (0 ≤ r ∧ r ≤ left ∧ P)) ∧ Below w.heap.size w w'

def OkTrs (ts : List Tr) : Prop := ts.length ≤ 9223372036854775807 ∧ ∀ i, i < ts.length → (ts.getD i ([], [])).1.length ≤ 9223372036854775807 ∧ (ts.getD i ([], [])).2.length ≤ 9223372036854775807

set_option maxHeartbeats 400000 in
theorem szTransition_any (v0 v1 : Value) (t : Tr) (left : Int) (w : World) (lo : Nat) (hv : TrAt lo w v0 v1 t) (h0 : 0 ≤ left) (h1 : left ≤ 1048576) (hn : t.1.length ≤ 9223372036854775807) (hm : t.2.length ≤ 9223372036854775807) :
    Calls Tryz.prog 52 #[.agg #[v0, v1], .int .i64 left] w (RetSz w left (t.1.length ≤ 1048576 ∧ t.2.length ≤ 1048576)) := by
  obtain ⟨⟨a0, k0, rfl, _, _⟩, ⟨a1, k1, rfl, _, _⟩⟩ := hv
  go_enter Tryz.func52, Tryz.ntmps52
  go_wp2_with fail
  refine (szIntS_any _ _ _ _ _ h0 h1 hn).mono ?_
  rintro e w1 ⟨rfl, hb0⟩
  obtain ⟨hc, hf⟩ := bcell hb0
  have hz1b : w.heap.size < w1.heap.size := by have := hb0.size; simp at this; omega
  have hw1 : Below w.heap.size w w1 := by
    refine Below.trans ?_ (hb0.mono ?_)
    · (repeat' (first | (with_reducible exact Below.refl _ _) | (with_reducible assumption) | (with_reducible refine Below.alloc ?_ ?_ _) | (with_reducible refine Below.drew ?_) | (with_reducible refine below_drewN ?_ _) | (with_reducible refine Below.setCell ?_ ?_ _) | go_size))
    · simp
  by_cases hlt : left < t.1.length
  · have e : szI left t.1.length = -1 := by unfold szI; rw [if_pos hlt]
    rw [e]; clear e
    go_wp2_with fail
    go_ret
    exact ⟨_, rfl, Or.inl rfl, hw1⟩
  · have e : szI left t.1.length = left - t.1.length := by unfold szI; rw [if_neg hlt]
    rw [e]; clear e
    obtain ⟨r, hr⟩ : ∃ r, r = left - (t.1.length : Int) := ⟨_, rfl⟩
    rw [← hr]
    have g0 : 0 ≤ r := by omega
    have g1 : r ≤ left := by omega
    have HR := Lib.hid hr; clear hr
    go_wp2_with fail
    refine (szIntS_any _ _ _ _ _ g0 (by omega) hm).mono ?_
    rintro e w2 ⟨rfl, hb1⟩
    have hw2 : Below w.heap.size w w2 := hw1.trans (hb1.mono (by omega))
    by_cases hlt2 : r < t.2.length
    · have e : szI r t.2.length = -1 := by unfold szI; rw [if_pos hlt2]
      rw [e]; clear e
      go_wp2_with fail
      go_ret
      exact ⟨_, rfl, Or.inl rfl, hw2⟩
    · have e : szI r t.2.length = r - t.2.length := by unfold szI; rw [if_neg hlt2]
      rw [e]; clear e
      go_wp2_with fail
      go_ret
      exact ⟨_, rfl, Or.inr ⟨by omega, by omega, by omega, by omega⟩, hw2⟩

set_option maxHeartbeats 400000 in
theorem szTransitionS_any (v : Value) (ts : List Tr) (left : Int) (w : World) (lo : Nat) (hv : TrsAt lo w v ts) (h0 : 0 ≤ left) (h1 : left ≤ 1048576) (hok : OkTrs ts) :
    Calls Tryz.prog 22 #[v, .int .i64 left] w (RetSz w left (SmallTrs ts)) := by
  obtain ⟨ao, cap, rfl, hc, hz⟩ := hv
  obtain ⟨hn, hsm⟩ := hok
  have HF := Lib.hid hz; clear hz
  have HS := Lib.hid hsm; clear hsm
  go_enter Tryz.func22, Tryz.ntmps22
  by_cases hlt0 : left < ts.length
  · go_wp2_with fail
    go_ret
    exact ⟨_, rfl, Or.inl rfl, Below.refl _ _⟩
  go_wp2_with fail
  go_loopw [1, 5] (fun l i wr => ∃ (k : Nat) (r : Int), k ≤ ts.length ∧ i = .int .i64 k ∧ l = .int .i64 r ∧ 0 ≤ r ∧ r ≤ left ∧ Hid (∀ i, i < k → (ts.getD i ([], [])).1.length ≤ 1048576 ∧ (ts.getD i ([], [])).2.length ≤ 1048576) ∧ Below w.heap.size w wr) (fun _ i _ => ts.length - (intOf i).toNat)
  case atStart =>
    exact ⟨0, left - ts.length, Nat.zero_le _, rfl, rfl, by omega, by omega, fun i hi => absurd hi (Nat.not_lt_zero _), Below.refl _ _⟩
  case round =>
    obtain ⟨k, r, hk, rfl, rfl, g0, g1, hall, hb1⟩ := hrel
    by_cases hlt : k < ts.length
    · rcases HF.out with rfl | ⟨b, off, rfl, hlo, hcell⟩
      · simp at hlt
      obtain ⟨x0, x1, c0, c1, hx⟩ := hcell k hlt
      have d0 := Carries.of lo hb1 _ _ hlo c0
      have d1 := Carries.of lo hb1 _ _ hlo c1
      obtain ⟨hk1, hk2⟩ := HS.out k hlt
      obtain ⟨t, htk⟩ : ∃ t, t = ts.getD k ([], []) := ⟨_, rfl⟩
      rw [← htk] at hk1 hk2 hx
      have HK := Lib.hid htk; clear htk
      have HX := Lib.hid (hx.keep (Carries.of lo hb1))
      clear hcell c0 c1 hx
      go_wp2_with fail
      refine (szTransition_any _ _ _ _ _ lo HX.out g0 (by omega) hk1 hk2).mono ?_
      rintro e w1 ⟨q, rfl, hq, hb2⟩
      have hw1 : Below w.heap.size w w1 := hb1.trans (hb2.mono hb1.size)
      rcases hq with rfl | ⟨q0, q1, hq2, hq3⟩
      · go_wp2_with fail
        go_ret
        exact ⟨_, rfl, Or.inl rfl, hw1⟩
      · have H2 : Hid (∀ i, i < k + 1 → (ts.getD i ([], [])).1.length ≤ 1048576 ∧ (ts.getD i ([], [])).2.length ≤ 1048576) := by
          intro i hi
          by_cases e : i = k
          · subst e; rw [← HK.out]; exact ⟨hq2, hq3⟩
          · exact hall.out i (by omega)
        go_wp2_with fail
        go_roundw
        case rel => exact ⟨k + 1, q, by omega, by go_num, rfl, q0, by omega, H2, hw1⟩
        case measure => simp [intOf]; omega
    · have hkk : k = ts.length := by omega
      subst hkk
      go_wp2_with fail
      go_ret
      exact ⟨_, rfl, Or.inr ⟨g0, g1, by omega, hall.out⟩, hb1⟩

set_option maxHeartbeats 400000 in
theorem szNet_any (v : Value) (n : NetD) (left : Int) (w : World) (lo : Nat) (hv : NetAt lo w v n) (h0 : 0 ≤ left) (h1 : left ≤ 1048576) (hok : OkTrs n.ts) :
    Calls Tryz.prog 5 #[v, .int .i64 left] w (RetSz w left (SmallTrs n.ts)) := by
  obtain ⟨p, ts⟩ := n
  obtain ⟨hp0, hp1, u, rfl, ht⟩ := hv
  simp only at hp0 hp1 ht hok ⊢
  have ht' := ht
  obtain ⟨a0, k0, rfl, _, _⟩ := ht'
  have H0 := Lib.hid ht; clear ht
  have HS := Lib.hid hok; clear hok
  go_enter Tryz.func5, Tryz.ntmps5
  go_wp2_with fail
  refine (szTransitionS_any _ ts _ _ lo (H0.out.keep ?_) h0 h1 HS.out).mono ?_
  · (repeat' (first | (with_reducible exact Carries.refl _ _) | (with_reducible assumption) | (with_reducible refine Carries.alloc ?_ _) | (with_reducible refine Carries.drew ?_) | (with_reducible refine Carries.drewN ?_ _) | (with_reducible refine Carries.set ?_ ?_ _) | go_size))
  rintro e w1 ⟨q, rfl, hq, hb2⟩
  have hw1 : Below w.heap.size w w1 := by
    refine Below.trans ?_ (hb2.mono ?_)
    · (repeat' (first | (with_reducible exact Below.refl _ _) | (with_reducible assumption) | (with_reducible refine Below.alloc ?_ ?_ _) | (with_reducible refine Below.drew ?_) | (with_reducible refine below_drewN ?_ _) | (with_reducible refine Below.setCell ?_ ?_ _) | go_size))
    · simp
  rcases hq with rfl | ⟨q0, q1, hq2⟩
  · go_wp2_with fail
    go_ret
    exact ⟨_, rfl, Or.inl rfl, hw1⟩
  · have HQ := Lib.hid hq2; clear hq2
    go_wp2_with fail
    go_ret
    exact ⟨_, rfl, Or.inr ⟨q0, q1, HQ.out⟩, hw1⟩

end Go.Proofs.YtigkgfdnnfmmmaaGreat
