/- WALKS: hasArc of the program; slices.IndexFunc and slices.ContainsFunc of arcs at a closure whose answers are known; hasArcs. -/
import Derived.Test.YtnmoocgocnjdjaaGreatVSgj
namespace Go.Proofs.YtnmoocgocnjdjaaGreat
open Go.RowKit

/-- the first k signals are in order over an arc -/
def FlipTo (s : Int) (u : Bool) (x y : ByteArray) (k : Nat) : Prop := ∀ q, q < k → FlipAt s u x y q

set_option maxRecDepth 100000 in
set_option maxHeartbeats 4000000 in
theorem hasArc_any (v : Value) (r : SgD) (f s : Int) (u : Bool) (t : Int) (w : World) (lo : Nat) (hv : SgAt lo w v r) (hs : SmallSg r) (hco : codesB r.sigs.length r.codes = true) :
    Calls Tryz.prog 186 #[v, .agg #[.int .i64 f, .int .i64 s, .bool u, .int .i64 t]] w (RetB w (arcV r.sigs.length r.codes f s u t)) := by
  obtain ⟨g, hg⟩ : ∃ g, g = arcV r.sigs.length r.codes f s u t := ⟨_, rfl⟩
  rw [← hg]
  obtain ⟨a0, c0, a1, c1, a2, c2, rfl, h_0, hm, h_2⟩ := hv.form
  clear hv h_0 h_2
  obtain ⟨gs, ss, ls⟩ := r
  obtain ⟨k0, k1, k2⟩ := hs
  simp only at hm k0 k1 k2 hg hco ⊢
  have HM := Lib.hid hm; clear hm
  have HG := Lib.hid hg; clear hg
  have HCO := Lib.hid hco; clear hco
  have K0 := k0.1
  have K1 := k1.1
  have HK := Lib.hid k1.2
  clear k0 k1
  obtain ⟨m, hm⟩ : ∃ m, m = gs.length := ⟨_, rfl⟩
  rw [← hm] at HG HCO K0 ⊢
  clear hm
  go_enter Tryz.func186, Tryz.ntmps186
  go_wp2_with fail
  refine (hasState_any _ _ _ _ _ _ _ _ _ _ _ K1).mono ?_
  rintro e w1 ⟨rfl, hb⟩
  have hw1 : Below w.heap.size w w1 := by
    refine Below.trans ?_ (hb.mono ?_)
    · (repeat' (first | (with_reducible exact Below.refl _ _) | (with_reducible assumption) | (with_reducible refine Below.alloc ?_ ?_ _) | (with_reducible refine Below.drew ?_) | (with_reducible refine below_drewN ?_ _) | (with_reducible refine Below.setCell ?_ ?_ _) | go_size))
    · simp; omega
  have x0 : w1.cell? ⟨w.heap.size, 0, none⟩ = some (.slice a0 m c0) := cell_carry (by simp) (Carries.of 0 hb)
  have x1 : w1.cell? ⟨w.heap.size, 1, none⟩ = some (.slice a1 ss.length c1) := cell_carry (by simp) (Carries.of 0 hb)
  have x2 : w1.cell? ⟨w.heap.size, 2, none⟩ = some (.slice a2 ls.length c2) := cell_carry (by simp) (Carries.of 0 hb)
  have y0 : w1.cell? ⟨w.heap.size + 1, 0, none⟩ = some (.int .i64 f) := cell_carry (by simp) (Carries.of 0 hb)
  have y1 : w1.cell? ⟨w.heap.size + 1, 1, none⟩ = some (.int .i64 s) := cell_carry (by simp) (Carries.of 0 hb)
  have y2 : w1.cell? ⟨w.heap.size + 1, 2, none⟩ = some (.bool u) := cell_carry (by simp) (Carries.of 0 hb)
  have y3 : w1.cell? ⟨w.heap.size + 1, 3, none⟩ = some (.int .i64 t) := cell_carry (by simp) (Carries.of 0 hb)
  have z1 : w.heap.size + 1 < w1.heap.size := by have := hb.size; simp at this; omega
  clear hb
  by_cases h1 : 0 ≤ f ∧ f < ss.length
  case neg =>
    have e := HG.out
    unfold arcV arcIn at e
    rw [decide_eq_false (fun h => h1 h.1), Bool.false_and] at e
    subst e
    rw [decide_eq_false h1]
    clear h1
    go_wp2_with fail
    go_ret
    exact ⟨rfl, hw1⟩
  rw [decide_eq_true h1]
  go_wp2_with fail
  refine (hasState_any _ _ _ _ _ _ _ _ _ _ _ K1).mono ?_
  rintro e w2 ⟨rfl, hb⟩
  have hw2 : Below w.heap.size w w2 := hw1.trans (hb.mono hw1.size)
  have x0 := cell_carry x0 (Carries.of 0 hb)
  have x1 := cell_carry x1 (Carries.of 0 hb)
  have x2 := cell_carry x2 (Carries.of 0 hb)
  have y0 := cell_carry y0 (Carries.of 0 hb)
  have y1 := cell_carry y1 (Carries.of 0 hb)
  have y2 := cell_carry y2 (Carries.of 0 hb)
  have y3 := cell_carry y3 (Carries.of 0 hb)
  have z2 : w.heap.size + 1 < w2.heap.size := by have := hb.size; omega
  clear hb hw1 z1
  by_cases h2 : 0 ≤ t ∧ t < ss.length
  case neg =>
    have e := HG.out
    unfold arcV arcIn at e
    rw [decide_eq_false (fun h => h2 h.2), Bool.false_and] at e
    subst e
    rw [decide_eq_false h2]
    clear h2
    go_wp2_with fail
    go_ret
    exact ⟨rfl, hw2⟩
  rw [decide_eq_true h2]
  go_wp2_with fail
  refine (sgHasSignal_any _ _ _ _ _ _ _ _ _ _ _ K0).mono ?_
  rintro e w3 ⟨rfl, hb⟩
  have hw3 : Below w.heap.size w w3 := hw2.trans (hb.mono hw2.size)
  have x0 := cell_carry x0 (Carries.of 0 hb)
  have x1 := cell_carry x1 (Carries.of 0 hb)
  have x2 := cell_carry x2 (Carries.of 0 hb)
  have y0 := cell_carry y0 (Carries.of 0 hb)
  have y1 := cell_carry y1 (Carries.of 0 hb)
  have y2 := cell_carry y2 (Carries.of 0 hb)
  have y3 := cell_carry y3 (Carries.of 0 hb)
  have z3 : w.heap.size + 1 < w3.heap.size := by have := hb.size; omega
  clear hb hw2 z2
  have e := HG.out
  unfold arcV arcIn at e
  rw [decide_eq_true ⟨h1, h2⟩, Bool.true_and] at e
  have HG2 := Lib.hid e; clear e HG
  -- the rest, said once
  have HK0 : ∀ W : World, Below w.heap.size w W → w.heap.size + 1 < W.heap.size → True := fun _ _ _ => trivial
  clear HK0
  obtain ⟨fn, hfn⟩ := Int.eq_ofNat_of_zero_le h1.1
  obtain ⟨tn, htn⟩ := Int.eq_ofNat_of_zero_le h2.1
  subst hfn; subst htn
  have hf1 : fn < ss.length := by omega
  have ht1 : tn < ss.length := by omega
  clear h1 h2
  have HCF := Lib.hid (codesB_at HCO.out hf1)
  have HCT := Lib.hid (codesB_at HCO.out ht1)
  have zf : (stN ss fn).size ≤ 1048576 := HK.out _ hf1
  have zt : (stN ss tn).size ≤ 1048576 := HK.out _ ht1
  have hzf : m ≤ (stN ss fn).size ∧ (stN ss fn).size ≤ m := by have := codeB_size HCF.out; omega
  have hzt : m ≤ (stN ss tn).size ∧ (stN ss tn).size ≤ m := by have := codeB_size HCT.out; omega
  obtain ⟨hzf1, hzf2⟩ := hzf
  obtain ⟨hzt1, hzt2⟩ := hzt
  simp only [Int.toNat_natCast] at HG2
  rcases HM.out with ⟨ao, cap, hvv, hc, hz⟩
  injection hvv with e1 e2 e3
  subst e1; subst e3; clear e2
  rcases hz with h0 | ⟨b, off, rfl, hlo, hcell⟩
  · omega
  have C0 := hcell fn hf1
  have C1 := hcell tn ht1
  clear hcell
  generalize stN ss fn = X at HCF zf hzf1 hzf2 HG2 C0
  generalize stN ss tn = Y at HCT zt hzt1 hzt2 HG2 C1
  by_cases h3 : 0 ≤ s ∧ s < (m : Int)
  · rw [decide_eq_true h3]
    have e := HG2.out
    rw [labV_in h3, Bool.true_and] at e
    have HG3 := Lib.hid e; clear e HG2
    have D0 := Carries.of lo hw3 _ _ hlo C0
    clear h3
    go_wp2_with fail
    go_loopw [5, 6] (fun _ _ wr => ∃ pos : Nat, pos ≤ X.size ∧ wr.heap[w3.heap.size]? = some (.stringIter X pos) ∧ Hid (FlipTo s u X Y pos) ∧ Below w3.heap.size w3 wr) (fun _ _ wr => X.size - wr.iterPos w3.heap.size)
    case atStart => exact ⟨0, Nat.zero_le _, w3.iter_heap X 0, fun q hq => absurd hq (Nat.not_lt_zero _), Below.iter _ _⟩
    case round =>
      obtain ⟨pos, hpos, hit, hall, hb1⟩ := hrel
      have x0 := cell_keep x0 hb1 (Nat.le_refl _)
      have x1 := cell_keep x1 hb1 (Nat.le_refl _)
      have x2 := cell_keep x2 hb1 (Nat.le_refl _)
      have y0 := cell_keep y0 hb1 (Nat.le_refl _)
      have y1 := cell_keep y1 hb1 (Nat.le_refl _)
      have y2 := cell_keep y2 hb1 (Nat.le_refl _)
      have y3 := cell_keep y3 hb1 (Nat.le_refl _)
      by_cases hp : pos < X.size
      · have hpy : pos < Y.size := by omega
        have hbX : byN X pos = 48 ∨ byN X pos = 49 := codeB_bit HCF.out (by omega)
        have hnx : ∀ ty, (Instr.next (.pointer (some ⟨w3.heap.size, 0, none⟩)) true ty).run Tryz.prog wr = .ok (.tuple #[.bool true, .int .i64 pos, .int .i32 ((byN X pos : Nat) : Int)]) (iterAt wr w3.heap.size X (pos + 1)) := fun ty => by
          have h := run_next_at (P := Tryz.prog) wr w3.heap.size X pos ty hit hp (by rw [← byN_get hp]; omega)
          rw [← byN_get hp] at h
          exact h
        have hit2 := iterAt_heap (p' := pos + 1) hit
        have hcar := iterAt_carries (p' := pos + 1) hit 0
        have hbi : Below w3.heap.size w3 (iterAt wr w3.heap.size X (pos + 1)) := hb1.trans (iterAt_below (Nat.le_refl _))
        have x0 := cell_carry x0 hcar
        have x1 := cell_carry x1 hcar
        have x2 := cell_carry x2 hcar
        have y0 := cell_carry y0 hcar
        have y1 := cell_carry y1 hcar
        have y2 := cell_carry y2 hcar
        have y3 := cell_carry y3 hcar
        have d0 := Carries.of lo (hw3.trans (hbi.mono hw3.size)) _ _ hlo C1
        have zi : w3.heap.size < wr.heap.size := (Array.getElem?_eq_some_iff.1 hit).1
        have zi2 : w3.heap.size < (iterAt wr w3.heap.size X (pos + 1)).heap.size := by rw [iterAt_size]; exact zi
        have hfa : decide (FlipAt s u X Y pos) = allowB s u (pos : Int) (byN X pos : Int) (byN Y pos : Int) := flip_allow
        have hby : (Y[pos]'hpy).toNat = byN Y pos := (byN_get hpy).symm
        have hbl : byN Y pos ≤ 255 := by have := byN_lt Y pos; omega
        have HFA := Lib.hid hfa; clear hfa
        generalize iterAt wr w3.heap.size X (pos + 1) = wi at hnx hit2 hcar hbi x0 x1 x2 y0 y1 y2 y3 d0 zi2
        generalize ((byN X pos : Nat) : Int) = bx at hnx HFA
        have HIT := Lib.hid hit2
        have HIT0 := Lib.hid hit
        have HCC := Lib.hid hcar
        have HB1 := Lib.hid hb1
        clear hit hit2 hcar hb1
        go_wp2_with fail
        go_still_tail 12, (by kernel_rfl)
        change wpList _ _ _ _ _ wi.drew
        go_wp2_with fail
        refine (allows_any _ _ _ _ _ _ _ _).mono ?_
        rintro e w6 ⟨rfl, hb6⟩
        have hw6 : Below w3.heap.size w3 w6 := by
          refine hbi.trans (Below.trans ?_ (hb6.mono ?_))
          · (repeat' (first | (with_reducible exact Below.refl _ _) | (with_reducible assumption) | (with_reducible refine Below.alloc ?_ ?_ _) | (with_reducible refine Below.drew ?_) | (with_reducible refine below_drewN ?_ _) | (with_reducible refine Below.setCell ?_ ?_ _) | go_size))
          · simp; omega
        have hit6 : w6.heap[w3.heap.size]? = some (.stringIter X (pos + 1)) := (hb6.block _ (by simpa using zi2)).trans HIT.out
        have HIT6 := Lib.hid hit6
        rw [← HFA.out]
        clear hb6 hbi hit6 HIT HCC HB1 hby
        by_cases hfl : FlipAt s u X Y pos
        · rw [decide_eq_true hfl]
          have H2 : Hid (FlipTo s u X Y (pos + 1)) := by
            intro q hq
            by_cases e : q = pos
            · subst e; exact hfl
            · exact hall.out q (by omega)
          clear hfl hall HFA
          go_wp2_with fail
          go_roundw
          case rel => exact ⟨pos + 1, by omega, HIT6.out, H2, hw6⟩
          case measure => rw [iterPos_at HIT6.out, iterPos_at HIT0.out]; omega
        · rw [decide_eq_false hfl]
          have e := HG3.out
          rw [flipB_bad (by omega) hfl] at e
          subst e
          clear hfl hall HFA
          go_wp2_with fail
          go_ret
          exact ⟨rfl, hw3.trans (hw6.mono hw3.size)⟩
      · have hkk : pos = X.size := by omega
        subst hkk
        have hnx : ∀ ty, (Instr.next (.pointer (some ⟨w3.heap.size, 0, none⟩)) true ty).run Tryz.prog wr = .ok (.tuple #[.bool false]) wr := fun ty => run_next_stop (P := Tryz.prog) wr w3.heap.size X X.size ty hit hp
        have e := HG3.out
        rw [flipB_good (fun q hq => hall.out q (by omega))] at e
        subst e
        have HB1 := Lib.hid hb1
        clear hit hb1 hall
        go_wp2_with fail
        go_ret
        exact ⟨rfl, hw3.trans (HB1.out.mono hw3.size)⟩
  · rw [decide_eq_false h3]
    have e := HG2.out
    rw [labV_out h3] at e
    have HG3 := Lib.hid e; clear e HG2 h3
    go_wp2_with fail
    refine (label_any _ _ _ _ _).mono ?_
    rintro e w4 ⟨rfl, hb⟩
    have hw4 : Below w.heap.size w w4 := hw3.trans (hb.mono hw3.size)
    have x0 := cell_carry x0 (Carries.of 0 hb)
    have x1 := cell_carry x1 (Carries.of 0 hb)
    have x2 := cell_carry x2 (Carries.of 0 hb)
    have y0 := cell_carry y0 (Carries.of 0 hb)
    have y1 := cell_carry y1 (Carries.of 0 hb)
    have y2 := cell_carry y2 (Carries.of 0 hb)
    have y3 := cell_carry y3 (Carries.of 0 hb)
    have z4 : w.heap.size + 1 < w4.heap.size := by have := hb.size; omega
    clear hb hw3 z3
    go_wp2_with fail
    refine (isDummy_any _ _ _).mono ?_
    rintro e w5 ⟨rfl, hb⟩
    have hw5 : Below w.heap.size w w5 := hw4.trans (hb.mono hw4.size)
    have x0 := cell_carry x0 (Carries.of 0 hb)
    have x1 := cell_carry x1 (Carries.of 0 hb)
    have x2 := cell_carry x2 (Carries.of 0 hb)
    have y0 := cell_carry y0 (Carries.of 0 hb)
    have y1 := cell_carry y1 (Carries.of 0 hb)
    have y2 := cell_carry y2 (Carries.of 0 hb)
    have y3 := cell_carry y3 (Carries.of 0 hb)
    have z5 : w.heap.size + 1 < w5.heap.size := by have := hb.size; omega
    clear hb hw4 z4
    cases hdm : (decide (s = -1) && !u) with
    | false =>
      have e := HG3.out
      rw [hdm, Bool.false_and] at e
      subst e
      clear hdm
      go_wp2_with fail
      go_ret
      exact ⟨rfl, hw5⟩
    | true =>
      have e := HG3.out
      rw [hdm, Bool.true_and] at e
      have HG3 := Lib.hid e; clear e hdm
      have D0 := Carries.of lo hw5 _ _ hlo C0
      go_wp2_with fail
      go_loopw [5, 6] (fun _ _ wr => ∃ pos : Nat, pos ≤ X.size ∧ wr.heap[w5.heap.size]? = some (.stringIter X pos) ∧ Hid (FlipTo s u X Y pos) ∧ Below w5.heap.size w5 wr) (fun _ _ wr => X.size - wr.iterPos w5.heap.size)
      case atStart => exact ⟨0, Nat.zero_le _, w5.iter_heap X 0, fun q hq => absurd hq (Nat.not_lt_zero _), Below.iter _ _⟩
      case round =>
        obtain ⟨pos, hpos, hit, hall, hb1⟩ := hrel
        have x0 := cell_keep x0 hb1 (Nat.le_refl _)
        have x1 := cell_keep x1 hb1 (Nat.le_refl _)
        have x2 := cell_keep x2 hb1 (Nat.le_refl _)
        have y0 := cell_keep y0 hb1 (Nat.le_refl _)
        have y1 := cell_keep y1 hb1 (Nat.le_refl _)
        have y2 := cell_keep y2 hb1 (Nat.le_refl _)
        have y3 := cell_keep y3 hb1 (Nat.le_refl _)
        by_cases hp : pos < X.size
        · have hpy : pos < Y.size := by omega
          have hbX : byN X pos = 48 ∨ byN X pos = 49 := codeB_bit HCF.out (by omega)
          have hnx : ∀ ty, (Instr.next (.pointer (some ⟨w5.heap.size, 0, none⟩)) true ty).run Tryz.prog wr = .ok (.tuple #[.bool true, .int .i64 pos, .int .i32 ((byN X pos : Nat) : Int)]) (iterAt wr w5.heap.size X (pos + 1)) := fun ty => by
            have h := run_next_at (P := Tryz.prog) wr w5.heap.size X pos ty hit hp (by rw [← byN_get hp]; omega)
            rw [← byN_get hp] at h
            exact h
          have hit2 := iterAt_heap (p' := pos + 1) hit
          have hcar := iterAt_carries (p' := pos + 1) hit 0
          have hbi : Below w5.heap.size w5 (iterAt wr w5.heap.size X (pos + 1)) := hb1.trans (iterAt_below (Nat.le_refl _))
          have x0 := cell_carry x0 hcar
          have x1 := cell_carry x1 hcar
          have x2 := cell_carry x2 hcar
          have y0 := cell_carry y0 hcar
          have y1 := cell_carry y1 hcar
          have y2 := cell_carry y2 hcar
          have y3 := cell_carry y3 hcar
          have d0 := Carries.of lo (hw5.trans (hbi.mono hw5.size)) _ _ hlo C1
          have zi : w5.heap.size < wr.heap.size := (Array.getElem?_eq_some_iff.1 hit).1
          have zi2 : w5.heap.size < (iterAt wr w5.heap.size X (pos + 1)).heap.size := by rw [iterAt_size]; exact zi
          have hfa : decide (FlipAt s u X Y pos) = allowB s u (pos : Int) (byN X pos : Int) (byN Y pos : Int) := flip_allow
          have hby : (Y[pos]'hpy).toNat = byN Y pos := (byN_get hpy).symm
          have hbl : byN Y pos ≤ 255 := by have := byN_lt Y pos; omega
          have HFA := Lib.hid hfa; clear hfa
          generalize iterAt wr w5.heap.size X (pos + 1) = wi at hnx hit2 hcar hbi x0 x1 x2 y0 y1 y2 y3 d0 zi2
          generalize ((byN X pos : Nat) : Int) = bx at hnx HFA
          have HIT := Lib.hid hit2
          have HIT0 := Lib.hid hit
          have HCC := Lib.hid hcar
          have HB1 := Lib.hid hb1
          clear hit hit2 hcar hb1
          go_wp2_with fail
          go_still_tail 12, (by kernel_rfl)
          change wpList _ _ _ _ _ wi.drew
          go_wp2_with fail
          refine (allows_any _ _ _ _ _ _ _ _).mono ?_
          rintro e w6 ⟨rfl, hb6⟩
          have hw6 : Below w5.heap.size w5 w6 := by
            refine hbi.trans (Below.trans ?_ (hb6.mono ?_))
            · (repeat' (first | (with_reducible exact Below.refl _ _) | (with_reducible assumption) | (with_reducible refine Below.alloc ?_ ?_ _) | (with_reducible refine Below.drew ?_) | (with_reducible refine below_drewN ?_ _) | (with_reducible refine Below.setCell ?_ ?_ _) | go_size))
            · simp; omega
          have hit6 : w6.heap[w5.heap.size]? = some (.stringIter X (pos + 1)) := (hb6.block _ (by simpa using zi2)).trans HIT.out
          have HIT6 := Lib.hid hit6
          rw [← HFA.out]
          clear hb6 hbi hit6 HIT HCC HB1 hby
          by_cases hfl : FlipAt s u X Y pos
          · rw [decide_eq_true hfl]
            have H2 : Hid (FlipTo s u X Y (pos + 1)) := by
              intro q hq
              by_cases e : q = pos
              · subst e; exact hfl
              · exact hall.out q (by omega)
            clear hfl hall HFA
            go_wp2_with fail
            go_roundw
            case rel => exact ⟨pos + 1, by omega, HIT6.out, H2, hw6⟩
            case measure => rw [iterPos_at HIT6.out, iterPos_at HIT0.out]; omega
          · rw [decide_eq_false hfl]
            have e := HG3.out
            rw [flipB_bad (by omega) hfl] at e
            subst e
            clear hfl hall HFA
            go_wp2_with fail
            go_ret
            exact ⟨rfl, hw5.trans (hw6.mono hw5.size)⟩
        · have hkk : pos = X.size := by omega
          subst hkk
          have hnx : ∀ ty, (Instr.next (.pointer (some ⟨w5.heap.size, 0, none⟩)) true ty).run Tryz.prog wr = .ok (.tuple #[.bool false]) wr := fun ty => run_next_stop (P := Tryz.prog) wr w5.heap.size X X.size ty hit hp
          have e := HG3.out
          rw [flipB_good (fun q hq => hall.out q (by omega))] at e
          subst e
          have HB1 := Lib.hid hb1
          clear hit hb1 hall
          go_wp2_with fail
          go_ret
          exact ⟨rfl, hw5.trans (HB1.out.mono hw5.size)⟩

set_option maxRecDepth 100000 in
set_option maxHeartbeats 1000000 in
theorem IndexFuncArc_any (v : Value) (ss : List Ar) (F : Nat) (cv : Value) (g : Nat → Bool) (w : World) (lo : Nat) (hv : ArcsAt lo w v ss) (hl : ss.length ≤ 1048576)
    (hF : ∀ (args : Array Value) (w : World), (callFunc F args).run Tryz.prog w = .ok (.enter F args) w)
    (hclo : ∀ k, k < ss.length → ∀ w1, Below w.heap.size w w1 → Calls Tryz.prog F #[.agg #[.int .i64 (arF ss k), .int .i64 (arS ss k), .bool (arU ss k), .int .i64 (arT ss k)], cv] w1 (RetB w1 (g k))) :
    Calls Tryz.prog 216 #[v, .func (.func F) #[] #[cv]] w (RetIx w (anyTo ss.length g)) := by
  obtain ⟨q, hq⟩ : ∃ q, q = anyTo ss.length g := ⟨_, rfl⟩
  rw [← hq]
  have HG := Lib.hid hq; clear hq
  obtain ⟨ao, cap, rfl, hc, hz⟩ := hv
  have HF := Lib.hid hz; clear hz
  have HC := Lib.hid hclo; clear hclo
  go_enter Tryz.func216, Tryz.ntmps216
  go_wp2_with fail
  go_loopw [8] (fun i wr => ∃ k : Nat, k ≤ ss.length ∧ i = .int .i64 k ∧ Hid (∀ j, j < k → g j = false) ∧ Below w.heap.size w wr) (fun i _ => ss.length - (intOf i).toNat)
  case atStart => exact ⟨0, Nat.zero_le _, rfl, fun j hj => absurd hj (Nat.not_lt_zero _), Below.refl _ _⟩
  case round =>
    obtain ⟨k, hk, rfl, hall, hb1⟩ := hrel
    by_cases hlt : k < ss.length
    · rcases HF.out with h0 | ⟨b, off, rfl, hlo, hcell⟩
      · omega
      obtain ⟨q0, q1, q2, q3⟩ := hcell k hlt
      have d0 := Carries.of lo hb1 _ _ hlo q0
      have d1 := Carries.of lo hb1 _ _ hlo q1
      have d2 := Carries.of lo hb1 _ _ hlo q2
      have d3 := Carries.of lo hb1 _ _ hlo q3
      clear hcell q0 q1 q2 q3
      go_wp2_with fail
      refine (HC.out k hlt _ hb1).mono ?_
      rintro e w2 ⟨rfl, hb⟩
      have hw2 : Below w.heap.size w w2 := hb1.trans (hb.mono hb1.size)
      clear hb d0 d1 d2 d3
      cases hk2 : g k with
      | false =>
        have H2 : Hid (∀ j, j < k + 1 → g j = false) := by
          intro j hj
          by_cases ej : j = k
          · subst ej; exact hk2
          · exact hall.out j (by omega)
        clear hk2
        go_wp2_with fail
        go_roundw
        case rel => exact ⟨k + 1, by omega, by go_num, H2, hw2⟩
        case measure => simp [intOf]; omega
      | true =>
        have e := HG.out
        rw [anyTo_true hlt hk2] at e
        subst e
        clear hk2
        go_wp2_with fail
        go_ret
        refine ⟨(k : Int), rfl, by omega, by omega, ?_, hw2⟩
        rw [decide_eq_true (by omega)]
    · have hkk : k = ss.length := by omega
      subst hkk
      have e := HG.out
      rw [anyTo_false hall.out] at e
      subst e
      go_wp2_with fail
      go_ret
      exact ⟨-1, rfl, by omega, by omega, rfl, hb1⟩

set_option maxRecDepth 100000 in
set_option maxHeartbeats 400000 in
theorem ContainsFuncArc_any (v : Value) (ss : List Ar) (F : Nat) (cv : Value) (g : Nat → Bool) (w : World) (lo : Nat) (hv : ArcsAt lo w v ss) (hl : ss.length ≤ 1048576)
    (hF : ∀ (args : Array Value) (w : World), (callFunc F args).run Tryz.prog w = .ok (.enter F args) w)
    (hclo : ∀ k, k < ss.length → ∀ w1, Below w.heap.size w w1 → Calls Tryz.prog F #[.agg #[.int .i64 (arF ss k), .int .i64 (arS ss k), .bool (arU ss k), .int .i64 (arT ss k)], cv] w1 (RetB w1 (g k))) :
    Calls Tryz.prog 184 #[v, .func (.func F) #[] #[cv]] w (RetB w (anyTo ss.length g)) := by
  obtain ⟨q, hq⟩ : ∃ q, q = anyTo ss.length g := ⟨_, rfl⟩
  rw [← hq]
  have HG := Lib.hid hq; clear hq
  have hv2 := hv
  obtain ⟨ao, cap, rfl, _, _⟩ := hv2
  have HV := Lib.hid hv; clear hv
  have HC := Lib.hid hclo; clear hclo
  go_enter Tryz.func184, Tryz.ntmps184
  go_wp2_with fail
  refine (IndexFuncArc_any _ ss F _ g _ lo HV.out hl hF HC.out).mono ?_
  rintro e w1 ⟨r, rfl, h0, h1, hr, hb⟩
  rw [← HG.out] at hr
  by_cases h : 0 ≤ r
  · rw [decide_eq_true h] at hr
    subst hr
    have t1 : decide (0 ≤ r) = true := decide_eq_true (by omega)
    go_wp2_with fail
    go_ret
    exact ⟨rfl, hb⟩
  · rw [decide_eq_false h] at hr
    subst hr
    have t1 : decide (0 ≤ r) = false := decide_eq_false (by omega)
    go_wp2_with fail
    go_ret
    exact ⟨rfl, hb⟩

set_option maxRecDepth 100000 in
set_option maxHeartbeats 1000000 in
theorem arcsClo_any (r : SgD) (f s : Int) (u : Bool) (t : Int) (B : Nat) (a0 a1 a2 : Option Addr) (c0 c1 c2 : Nat) (w : World) (lo : Nat) (hs : SmallSg r) (hco : codesB r.sigs.length r.codes = true)
    (hv : SgAt lo w (.agg #[.slice a0 r.sigs.length c0, .slice a1 r.codes.length c1, .slice a2 r.arcs.length c2]) r)
    (x0 : w.cell? ⟨B, 0, none⟩ = some (.slice a0 r.sigs.length c0)) (x1 : w.cell? ⟨B, 1, none⟩ = some (.slice a1 r.codes.length c1)) (x2 : w.cell? ⟨B, 2, none⟩ = some (.slice a2 r.arcs.length c2)) :
    Calls Tryz.prog 185 #[.agg #[.int .i64 f, .int .i64 s, .bool u, .int .i64 t], .pointer (some ⟨B, 0, none⟩)] w (RetB w (!arcV r.sigs.length r.codes f s u t)) := by
  have HV := Lib.hid hv; clear hv
  have HS := Lib.hid hs; clear hs
  have HC := Lib.hid hco; clear hco
  have zB : B < w.heap.size := cell_old x0
  obtain ⟨n0, h0⟩ : ∃ n, n = r.sigs.length := ⟨_, rfl⟩
  obtain ⟨n1, h1⟩ : ∃ n, n = r.codes.length := ⟨_, rfl⟩
  obtain ⟨n2, h2⟩ : ∃ n, n = r.arcs.length := ⟨_, rfl⟩
  rw [← h0, ← h1, ← h2] at HV
  rw [← h0] at x0 HC ⊢
  rw [← h1] at x1
  rw [← h2] at x2
  have H0 := Lib.hid h0; clear h0 h1 h2
  obtain ⟨g, hg⟩ : ∃ g, g = arcV n0 r.codes f s u t := ⟨_, rfl⟩
  rw [← hg]
  have HG := Lib.hid hg; clear hg
  go_enter Tryz.func185, Tryz.ntmps185
  go_wp2_with fail
  refine (hasArc_any _ r _ _ _ _ _ lo (HV.out.keep ?_) HS.out (by rw [← H0.out]; exact HC.out)).mono ?_
  · (repeat' (first | (with_reducible exact Carries.refl _ _) | (with_reducible assumption) | (with_reducible refine Carries.alloc ?_ _) | (with_reducible refine Carries.drew ?_) | (with_reducible refine Carries.drewN ?_ _) | (with_reducible refine Carries.set ?_ ?_ _) | go_size))
  rintro e w1 ⟨rfl, hb⟩
  rw [← H0.out, ← HG.out]
  have hw1 : Below w.heap.size w w1 := by
    refine Below.trans ?_ (hb.mono ?_)
    · (repeat' (first | (with_reducible exact Below.refl _ _) | (with_reducible assumption) | (with_reducible refine Below.alloc ?_ ?_ _) | (with_reducible refine Below.drew ?_) | (with_reducible refine below_drewN ?_ _) | (with_reducible refine Below.setCell ?_ ?_ _) | go_size))
    · simp
  clear hb
  go_wp2_with fail
  go_ret
  exact ⟨rfl, hw1⟩

set_option maxRecDepth 100000 in
set_option maxHeartbeats 1000000 in
theorem hasArcs_any (v : Value) (r : SgD) (w : World) (lo : Nat) (hv : SgAt lo w v r) (hs : SmallSg r) (hco : codesB r.sigs.length r.codes = true) :
    Calls Tryz.prog 147 #[v] w (RetB w (decide (r.arcs.length ≤ 4000) && arcsB r.sigs.length r.codes r.arcs)) := by
  obtain ⟨q, hq⟩ : ∃ q, q = (decide (r.arcs.length ≤ 4000) && arcsB r.sigs.length r.codes r.arcs) := ⟨_, rfl⟩
  rw [← hq]
  have HV0 := Lib.hid hv
  obtain ⟨a0, c0, a1, c1, a2, c2, rfl, h_0, h_1, hl⟩ := hv.form
  clear hv h_0 h_1
  have HL := Lib.hid hl; clear hl
  have HQ := Lib.hid hq; clear hq
  have HS := Lib.hid hs
  have K2 := hs.2.2
  have HC := Lib.hid hco
  clear hs hco
  have hmf : ∀ (fn : Fn) (first cap : Array Value) (w : World), (Instr.makeFunc fn first cap).run Tryz.prog w = .ok (.func fn first cap) w := fun _ _ _ _ => rfl
  go_enter Tryz.func147, Tryz.ntmps147
  by_cases h2 : r.arcs.length ≤ 4000
  case neg =>
    have e := HQ.out
    rw [decide_eq_false (by omega), Bool.false_and] at e
    subst e
    go_wp2_with fail
    go_ret
    exact ⟨rfl, by (repeat' (first | (with_reducible exact Below.refl _ _) | (with_reducible assumption) | (with_reducible refine Below.alloc ?_ ?_ _) | (with_reducible refine Below.drew ?_) | (with_reducible refine below_drewN ?_ _) | (with_reducible refine Below.setCell ?_ ?_ _) | go_size))⟩
  have e := HQ.out
  rw [decide_eq_true h2, Bool.true_and] at e
  have HE := Lib.hid e; clear e HQ
  have hal : Below w.heap.size w (w.alloc (.cells #[.slice a0 r.sigs.length c0, .slice a1 r.codes.length c1, .slice a2 r.arcs.length c2] 80)) := (Below.refl _ _).alloc (Nat.le_refl _) _
  have x0 : (w.alloc (.cells #[.slice a0 r.sigs.length c0, .slice a1 r.codes.length c1, .slice a2 r.arcs.length c2] 80)).cell? ⟨w.heap.size, 0, none⟩ = some (.slice a0 r.sigs.length c0) := by simp
  have x1 : (w.alloc (.cells #[.slice a0 r.sigs.length c0, .slice a1 r.codes.length c1, .slice a2 r.arcs.length c2] 80)).cell? ⟨w.heap.size, 1, none⟩ = some (.slice a1 r.codes.length c1) := by simp
  have x2 : (w.alloc (.cells #[.slice a0 r.sigs.length c0, .slice a1 r.codes.length c1, .slice a2 r.arcs.length c2] 80)).cell? ⟨w.heap.size, 2, none⟩ = some (.slice a2 r.arcs.length c2) := by simp
  have HX := Lib.hid (And.intro x0 (And.intro x1 x2)); clear x0 x1 x2
  have HAL := Lib.hid hal; clear hal
  go_wp2_with fail
  refine (ContainsFuncArc_any _ r.arcs _ _ (fun k => !arcV r.sigs.length r.codes (arF r.arcs k) (arS r.arcs k) (arU r.arcs k) (arT r.arcs k)) _ lo (HL.out.keep (Carries.of lo HAL.out)) K2 (fun _ _ => rfl)
    (fun k hk w1 hw1 => arcsClo_any r _ _ _ _ _ a0 a1 a2 c0 c1 c2 _ lo HS.out HC.out (HV0.out.keep ((Carries.of lo HAL.out).trans (Carries.of lo hw1))) (cell_carry HX.out.1 (Carries.of 0 hw1)) (cell_carry HX.out.2.1 (Carries.of 0 hw1)) (cell_carry HX.out.2.2 (Carries.of 0 hw1)))).mono ?_
  rintro e w1 ⟨rfl, hb⟩
  have hw1 : Below w.heap.size w w1 := HAL.out.trans (hb.mono (by simp))
  rw [anyTo_not]
  have e2 : (List.range r.arcs.length).all (fun k => arcV r.sigs.length r.codes (arF r.arcs k) (arS r.arcs k) (arU r.arcs k) (arT r.arcs k)) = q := HE.out.symm
  rw [e2]
  clear hb e2 HE HX HAL
  cases q with
  | false =>
    go_wp2_with fail
    go_ret
    exact ⟨rfl, hw1⟩
  | true =>
    go_wp2_with fail
    go_ret
    exact ⟨rfl, hw1⟩


end Go.Proofs.YtnmoocgocnjdjaaGreat
