/- WALK: l7Past of the model (written by gen7/glpa.py). -/
import Derived.Test.YtigkgfdnnfmmmaaGreatVHpw
import Derived.Test.YtigkgfdnnfmmmaaGreatVOwnt
namespace Go.Proofs.YtigkgfdnnfmmmaaGreat
open Go.RowKit

/-- marks as values -/
def mkV (m : Nat → Bool) : Nat → Value := fun k => .bool (m k)
theorem mkV_up (m : Nat → Bool) (t : Nat) : (fun j => if j = t then Value.bool true else mkV m j) = mkV (fun j => m j || decide (j = t)) := by
  funext j
  unfold mkV
  show (if j = t then Value.bool true else Value.bool (m j)) = Value.bool (m j || decide (j = t))
  by_cases h : j = t
  · rw [if_pos h, decide_eq_true h, Bool.or_true]
  · rw [if_neg h, decide_eq_false h, Bool.or_false]
/-- the list's events that are none below 0 -/
def inL (L : List Int) : Nat → Bool := fun f => decide ((f : Int) ∈ L)
/-- within the pass over one event's conditions -/
def mkPart (cs : List Cnd) (M : Nat → Bool) (b : Bool) (L : List Int) : Nat → Bool := fun f => M f || (b && byAny cs L f)
theorem mkPart_nil (cs : List Cnd) (M : Nat → Bool) (b : Bool) : mkPart cs M b [] = M := by
  funext f
  simp [mkPart, byAny]
theorem byAny_snoc (cs : List Cnd) (L : List Int) (c : Int) (f : Nat) : byAny cs (L ++ [c]) f = (byAny cs L f || decide (cnB cs c.toNat = (f : Int))) := by
  simp [byAny, List.any_append]
theorem mkPart_no {cs : List Cnd} {M : Nat → Bool} {b : Bool} {L : List Int} {c : Int} (h : b = false ∨ cnB cs c.toNat < 0) : mkPart cs M b (L ++ [c]) = mkPart cs M b L := by
  funext f
  unfold mkPart
  rw [byAny_snoc]
  rcases h with rfl | h
  · simp
  · rw [decide_eq_false (by omega), Bool.or_false]
theorem mkPart_yes {cs : List Cnd} {M : Nat → Bool} {L : List Int} {c : Int} {g : Nat} (h : cnB cs c.toNat = (g : Int)) : mkPart cs M true (L ++ [c]) = fun f => mkPart cs M true L f || decide (f = g) := by
  funext f
  unfold mkPart
  rw [byAny_snoc, h, Bool.true_and, Bool.true_and, Bool.or_assoc]
  congr 2
  rw [decide_eq_decide]
  omega
theorem inL_snoc {L : List Int} {k : Nat} (hk : k < L.length) : inL (L.take (k + 1)) = if 0 ≤ L.getD k 0 then (fun f => inL (L.take k) f || decide (f = (L.getD k 0).toNat)) else inL (L.take k) := by
  have e1 : L.take (k + 1) = L.take k ++ [L.getD k 0] := by
    rw [List.take_succ_eq_append_getElem hk]
    simp [List.getD, hk]
  rw [e1]
  generalize L.getD k 0 = c
  by_cases h : 0 ≤ c
  · rw [if_pos h]
    funext f
    unfold inL
    by_cases hf : (f : Int) ∈ L.take k
    · rw [decide_eq_true hf, decide_eq_true (List.mem_append_left _ hf), Bool.true_or]
    · rw [decide_eq_false hf, Bool.false_or, decide_eq_decide, List.mem_append]
      constructor
      · rintro (h1 | h1)
        · exact absurd h1 hf
        · have := List.mem_singleton.1 h1; omega
      · intro h1
        right
        rw [List.mem_singleton]
        omega
  · rw [if_neg h]
    funext f
    unfold inL
    rw [decide_eq_decide, List.mem_append]
    constructor
    · rintro (h1 | h1)
      · exact h1
      · have := List.mem_singleton.1 h1; omega
    · exact Or.inl
/-- the marked ones below k, rising -/
def outTo (m : Nat → Bool) (k : Nat) : List Int := ((List.range k).filter m).map fun (e : Nat) => (e : Int)
theorem outTo_yes {m : Nat → Bool} {k : Nat} (h : m k = true) : outTo m (k + 1) = outTo m k ++ [(k : Int)] := by
  unfold outTo
  rw [List.range_succ, List.filter_append, List.map_append]
  simp [h]
theorem outTo_no {m : Nat → Bool} {k : Nat} (h : m k = false) : outTo m (k + 1) = outTo m k := by
  unfold outTo
  rw [List.range_succ, List.filter_append, List.map_append]
  simp [h]
theorem outTo_len (m : Nat → Bool) (k : Nat) : (outTo m k).length ≤ k := by
  unfold outTo
  rw [List.length_map]
  exact Nat.le_trans (List.length_filter_le _ _) (by rw [List.length_range]; exact Nat.le_refl _)

set_option maxRecDepth 100000 in
set_option maxHeartbeats 4000000 in
theorem l7Past_any (v vl : Value) (cs : List Cnd) (es : List Ev) (L : List Int) (w : World) (lo lo' : Nat) (hv : UnfAt lo w v ⟨cs, es⟩) (hvl : IntsAt lo' w vl L) (hl : L.length ≤ 1048576) (he : es.length ≤ 1048576) (hev : ∀ k, k < es.length → (evP es k).length ≤ 1048576) (hL : ∀ k, k < L.length → L.getD k 0 < (es.length : Int)) (hwf : WfU cs es) :
    Calls Tryz.prog 77 #[v, vl] w (fun e w' => ∃ v', e = .returned v' ∧ IRow w.heap.size w' v' (outTo (pastM cs es (inL L) es.length) es.length) ∧ Below w.heap.size w w') := by
  obtain ⟨G, hG⟩ : ∃ x, x = outTo (pastM cs es (inL L) es.length) es.length := ⟨_, rfl⟩
  rw [← hG]
  have HG := Lib.hid hG; clear hG
  obtain ⟨a0, c0, a1, c1, rfl, hcn, hes⟩ := hv.form
  clear hv
  obtain ⟨ac, kc, e0, hkc, hcz⟩ := hes
  injection e0 with e1 e2 e3
  subst e1; subst e3; clear e2
  obtain ⟨ac2, kc2, e0, hkc2, hcz2⟩ := hcn
  injection e0 with e1 e2 e3
  subst e1; subst e3; clear e2
  simp only at hkc hcz hkc2 hcz2 ⊢
  have HC := Lib.hid hcz; clear hcz hkc
  have HD := Lib.hid hcz2; clear hcz2 hkc2
  have HEV := Lib.hid hev; clear hev
  have HWF := Lib.hid hwf; clear hwf
  have HLI := Lib.hid hL; clear hL
  obtain ⟨ao, cap, rfl, hxa, hxb⟩ := hvl
  have HF := Lib.hid hxb; clear hxb hxa
  obtain ⟨nc, hnc⟩ : ∃ x, x = cs.length := ⟨_, rfl⟩
  rw [← hnc] at HD ⊢
  have HNC := Lib.hid hnc; clear hnc
  obtain ⟨ne, hne⟩ : ∃ x, x = es.length := ⟨_, rfl⟩
  rw [← hne] at HC HEV HLI HG he ⊢
  have HNE := Lib.hid hne; clear hne
  have hmk := run_make_row' (P := Tryz.prog) 122 4 (.bool false) 1 Tryz.underlying122 Tryz.infoBool7 rfl .i64 .i64 ne (by omega) (by omega)
  go_enter Tryz.func77, Tryz.ntmps77
  go_wp2_with fail
  have hrow := World.rowIs_made (w.alloc (.cells #[.slice a0 nc c0, .slice a1 ne c1] 38)) (.bool false) ne 4
  rw [World.size_alloc] at hrow
  have hrow2 := hrow.congr (g := mkV (inL (L.take 0))) (fun i _ => by unfold mkV inL; simp)
  have HR := Lib.hid hrow2
  have hw0 : Below w.heap.size w ((w.alloc (.cells #[.slice a0 nc c0, .slice a1 ne c1] 38)).alloc (.cells (madeCells #[.bool false] ne) 4)) := by (repeat' (first | (with_reducible exact Below.refl _ _) | (with_reducible assumption) | (with_reducible refine Below.alloc ?_ ?_ _) | (with_reducible refine Below.drew ?_) | (with_reducible refine below_drewN ?_ _) | (with_reducible refine Below.setCell ?_ ?_ _) | go_size))
  have y0 : ((w.alloc (.cells #[.slice a0 nc c0, .slice a1 ne c1] 38)).alloc (.cells (madeCells #[.bool false] ne) 4)).cell? ⟨w.heap.size, 0, none⟩ = some (.slice a0 nc c0) := by simp
  have y1 : ((w.alloc (.cells #[.slice a0 nc c0, .slice a1 ne c1] 38)).alloc (.cells (madeCells #[.bool false] ne) 4)).cell? ⟨w.heap.size, 1, none⟩ = some (.slice a1 ne c1) := by simp
  have z0 : w.heap.size + 1 < ((w.alloc (.cells #[.slice a0 nc c0, .slice a1 ne c1] 38)).alloc (.cells (madeCells #[.bool false] ne) 4)).heap.size := by simp
  clear hrow hrow2 hmk
  generalize (w.alloc (.cells #[.slice a0 nc c0, .slice a1 ne c1] 38)).alloc (.cells (madeCells #[.bool false] ne) 4) = W at HR hw0 y0 y1 z0 ⊢
  go_loopw [20] (fun i wr => ∃ k : Nat, k ≤ L.length ∧ i = .int .i64 k ∧ Hid (wr.rowIs (w.heap.size + 1) 4 ne (mkV (inL (L.take k)))) ∧ Below w.heap.size w wr ∧ wr.cell? ⟨w.heap.size, 0, none⟩ = some (.slice a0 nc c0) ∧ wr.cell? ⟨w.heap.size, 1, none⟩ = some (.slice a1 ne c1) ∧ w.heap.size + 1 < wr.heap.size) (fun i _ => L.length - (intOf i).toNat)
  case atStart => exact ⟨0, Nat.zero_le _, rfl, HR.out, hw0, y0, y1, z0⟩
  case round =>
    clear y0 y1 z0 HR hw0
    obtain ⟨k, hk, rfl, hrow, hw1, x0, x1, z1⟩ := hrel
    by_cases hlt : k < L.length
    · rcases HF.out with h0 | ⟨b, off, rfl, hlo, hcell⟩
      · exact absurd hlt (by have h1 : L.length = 0 := (by simpa using h0); omega)
      have q0 := hcell k hlt
      have d0 := Carries.of lo' hw1 _ _ hlo q0
      clear hcell q0
      have hli := HLI.out k hlt
      have HS := Lib.hid (inL_snoc hlt)
      generalize L.getD k 0 = c at d0 hli HS
      by_cases hc : 0 ≤ c
      · obtain ⟨g, rfl⟩ := Int.eq_ofNat_of_zero_le hc
        have t1 : decide ((0 : Int) ≤ (g : Int)) = true := decide_eq_true hc
        have hs := HS.out
        rw [if_pos hc, Int.toNat_natCast] at hs
        have i5 : g < ne := by omega
        have ct := hrow.out.cell (i := g) i5
        have ft := hrow.out.frozen g
        have HR2 : Hid ((wr.setCell ⟨w.heap.size + 1, g, none⟩ (.bool true)).rowIs (w.heap.size + 1) 4 ne (mkV (inL (L.take (k + 1))))) := by
          unfold Hid
          rw [hs, ← mkV_up]
          exact hrow.out.set g (.bool true)
        have x0' : (wr.setCell ⟨w.heap.size + 1, g, none⟩ (.bool true)).cell? ⟨w.heap.size, 0, none⟩ = some (.slice a0 nc c0) := (World.cell?_setCell_other _ _ _ _ (fun h => by injection h; omega)).trans x0
        have x1' : (wr.setCell ⟨w.heap.size + 1, g, none⟩ (.bool true)).cell? ⟨w.heap.size, 1, none⟩ = some (.slice a1 ne c1) := (World.cell?_setCell_other _ _ _ _ (fun h => by injection h; omega)).trans x1
        have hb2 : Below w.heap.size w (wr.setCell ⟨w.heap.size + 1, g, none⟩ (.bool true)) := hw1.setCell (p := ⟨w.heap.size + 1, g, none⟩) (by show w.heap.size ≤ w.heap.size + 1; omega) _
        have HX := Lib.hid (And.intro x0' (And.intro x1' hb2)); clear x0' x1' hb2
        clear hs HS hrow
        go_wp2_with fail
        go_roundw
        case rel => exact ⟨k + 1, by omega, by go_num, HR2, HX.out.2.2, HX.out.1, HX.out.2.1, by simpa using z1⟩
        case measure => simp [intOf]; omega
      · have t1 : decide ((0 : Int) ≤ c) = false := decide_eq_false hc
        have hs := HS.out
        rw [if_neg hc] at hs
        have HR2 : Hid (wr.rowIs (w.heap.size + 1) 4 ne (mkV (inL (L.take (k + 1))))) := by unfold Hid; rw [hs]; exact hrow.out
        clear hs HS hrow hc
        go_wp2_with fail
        go_roundw
        case rel => exact ⟨k + 1, by omega, by go_num, HR2, hw1, x0, x1, z1⟩
        case measure => simp [intOf]; omega
    · have hkk : k = L.length := by omega
      subst hkk
      obtain ⟨M, hM⟩ : ∃ M, M = inL L := ⟨_, rfl⟩
      have HRM : Hid (wr.rowIs (w.heap.size + 1) 4 ne (mkV (pastM cs es M 0))) := by
        have h := hrow.out
        rw [List.take_length, ← hM] at h
        exact h
      rw [← hM] at HG
      clear hrow hM
      go_wp2_with fail
      clear HF HLI
      have NE0 : (ne : Int) - 1 - ((0 : Nat) : Int) = (ne : Int) - 1 := by omega
      go_loopw [8] (fun i wi => ∃ j : Nat, j ≤ ne ∧ i = .int .i64 ((ne : Int) - 1 - (j : Int)) ∧ Hid (wi.rowIs (w.heap.size + 1) 4 ne (mkV (pastM cs es M j))) ∧ Below w.heap.size w wi ∧ wi.cell? ⟨w.heap.size, 0, none⟩ = some (.slice a0 nc c0) ∧ wi.cell? ⟨w.heap.size, 1, none⟩ = some (.slice a1 ne c1) ∧ w.heap.size + 1 < wi.heap.size) (fun i _ => (intOf i + 1).toNat)
      case atStart => exact ⟨0, Nat.zero_le _, by rw [NE0], HRM.out, hw1, x0, x1, z1⟩
      case round =>
        clear HRM hw1 x0 x1 z1 NE0
        obtain ⟨j, hj, rfl, hrow, hw1, x0, x1, z1⟩ := hrel
        by_cases hjl : j < ne
        · obtain ⟨e, hee⟩ : ∃ e : Nat, e = ne - 1 - j := ⟨_, rfl⟩
          have hei : (ne : Int) - 1 - (j : Int) = (e : Int) := by omega
          have hei2 : (ne : Int) - 1 - ((j + 1 : Nat) : Int) = (e : Int) - 1 := by omega
          rw [hei]
          have hin : e < ne := by omega
          have i1 : (0 : Int) ≤ (e : Int) := by omega
          have i2 : (e : Int) < (ne : Int) := by omega
          have t1 : decide ((0 : Int) ≤ (e : Int)) = true := decide_eq_true i1
          have HMS : Hid (pastM cs es M (j + 1) = mkPart cs (pastM cs es M j) (pastM cs es M j e) (evP es e)) := by
            show mkStep cs es (pastM cs es M j) (es.length - 1 - j) = _
            rw [← HNE.out, ← hee]
            rfl
          generalize pastM cs es M j = m0 at hrow HMS
          rcases HC.out with h0 | ⟨b2, off2, rfl, hlo2, hcell2⟩
          · exact absurd hin (by rw [h0]; exact Nat.not_lt_zero _)
          obtain ⟨v1, q0, q1, hp⟩ := hcell2 e hin
          have g1 := Carries.of lo hw1 _ _ hlo2 q1
          have hle := HEV.out e hin
          have HWE := Lib.hid (HWF.out e (by rw [← HNE.out]; exact hin))
          obtain ⟨ap, kp, rfl, _, hpz⟩ := id hp
          have HPZ := Lib.hid hpz
          clear hcell2 q0 q1 hp hpz
          try dsimp only at g1
          obtain ⟨m, hm⟩ : ∃ m, m = (evP es e).length := ⟨_, rfl⟩
          rw [← hm] at hle g1 HPZ HWE
          have HM := Lib.hid hm; clear hm hee hei
          go_wp2_with fail
          clear g1
          go_loopw [44] (fun i wi => ∃ q : Nat, q ≤ m ∧ i = .int .i64 q ∧ Hid (wi.rowIs (w.heap.size + 1) 4 ne (mkV (mkPart cs m0 (m0 e) ((evP es e).take q)))) ∧ Below w.heap.size w wi ∧ wi.cell? ⟨w.heap.size, 0, none⟩ = some (.slice a0 nc c0) ∧ wi.cell? ⟨w.heap.size, 1, none⟩ = some (.slice (some ⟨b2, off2, none⟩) ne c1) ∧ w.heap.size + 1 < wi.heap.size) (fun i _ => m - (intOf i).toNat)
          case atStart => exact ⟨0, Nat.zero_le _, rfl, by unfold Hid; rw [List.take_zero, mkPart_nil]; exact hrow.out, hw1, x0, x1, z1⟩
          case round =>
            clear hw1 x0 x1 z1 hrow
            obtain ⟨q, hq, rfl, hrow, hw1, x0, x1, z1⟩ := hrel
            by_cases hql : q < m
            · rcases HPZ.out with h0 | ⟨b3, off3, rfl, hlo3, hcell3⟩
              · exact absurd hql (by have h1 : (evP es e).length = 0 := (by simpa using h0); have := HM.out; omega)
              have q0 := hcell3 q hql
              have d0 := Carries.of lo hw1 _ _ hlo3 q0
              clear hcell3 q0
              have hwe := HWE.out q hql
              have HTK : Hid ((evP es e).take (q + 1) = (evP es e).take q ++ [(evP es e).getD q 0]) := by
                have hql2 : q < (evP es e).length := by rw [← HM.out]; exact hql
                unfold Hid
                rw [List.take_succ_eq_append_getElem hql2]
                simp [List.getD, hql2]
              generalize (evP es e).getD q 0 = c at d0 hwe HTK
              obtain ⟨cn, rfl⟩ := Int.eq_ofNat_of_zero_le hwe.1.1
              rw [Int.toNat_natCast, ← HNC.out] at hwe
              have i3 := hwe.1.1
              have i4 := hwe.1.2
              have hby := hwe.2
              have i5 : cn < nc := by omega
              clear hwe
              have ce := hrow.out.cell (i := e) hin
              have ece : mkV (mkPart cs m0 (m0 e) ((evP es e).take q)) e = .bool (m0 e) := by
                unfold mkV mkPart
                cases m0 e <;> simp
              rw [ece] at ce
              clear ece
              rcases HD.out with h0 | ⟨b4, off4, rfl, hlo4, hcell4⟩
              · exact absurd i5 (by rw [h0]; exact Nat.not_lt_zero _)
              obtain ⟨q0, q1⟩ := hcell4 cn i5
              have g1 := Carries.of lo hw1 _ _ hlo4 q1
              clear hcell4 q0 q1
              try dsimp only at g1
              have HNOP := Lib.hid (fun h => mkPart_no (cs := cs) (M := m0) (b := m0 e) (L := (evP es e).take q) (c := (cn : Int)) h)
              have HYES : Hid (∀ g : Nat, cnB cs cn = (g : Int) → mkPart cs m0 true ((evP es e).take q ++ [(cn : Int)]) = fun f => mkPart cs m0 true ((evP es e).take q) f || decide (f = g)) := fun g hg => mkPart_yes (by rw [Int.toNat_natCast]; exact hg)
              rw [Int.toNat_natCast] at HNOP
              generalize cnB cs cn = p at g1 hby HNOP HYES
              cases hb : m0 e with
              | false =>
                rw [hb] at ce
                have HR2 : Hid (wr.rowIs (w.heap.size + 1) 4 ne (mkV (mkPart cs m0 (m0 e) ((evP es e).take (q + 1))))) := by
                  unfold Hid
                  rw [HTK.out, HNOP.out (Or.inl hb)]
                  exact hrow.out
                rw [hb] at HR2
                clear hrow HNOP HYES
                go_wp2_with fail
                go_roundw
                case rel => exact ⟨q + 1, by omega, by go_num, HR2, hw1, x0, x1, z1⟩
                case measure => simp [intOf]; omega
              | true =>
                rw [hb] at ce hrow
                by_cases hp0 : 0 ≤ p
                · obtain ⟨g, rfl⟩ := Int.eq_ofNat_of_zero_le hp0
                  have t2 : decide ((0 : Int) ≤ (g : Int)) = true := decide_eq_true hp0
                  have i6 : g < ne := by omega
                  have ct := hrow.out.cell (i := g) i6
                  have ft := hrow.out.frozen g
                  have HR2 : Hid ((wr.setCell ⟨w.heap.size + 1, g, none⟩ (.bool true)).rowIs (w.heap.size + 1) 4 ne (mkV (mkPart cs m0 true ((evP es e).take (q + 1))))) := by
                    unfold Hid
                    rw [HTK.out, HYES.out g rfl, ← mkV_up]
                    exact hrow.out.set g (.bool true)
                  have x0' : (wr.setCell ⟨w.heap.size + 1, g, none⟩ (.bool true)).cell? ⟨w.heap.size, 0, none⟩ = some (.slice (some ⟨b4, off4, none⟩) nc c0) := (World.cell?_setCell_other _ _ _ _ (fun h => by injection h; omega)).trans x0
                  have x1' : (wr.setCell ⟨w.heap.size + 1, g, none⟩ (.bool true)).cell? ⟨w.heap.size, 1, none⟩ = some (.slice (some ⟨b2, off2, none⟩) ne c1) := (World.cell?_setCell_other _ _ _ _ (fun h => by injection h; omega)).trans x1
                  have hb2 : Below w.heap.size w (wr.setCell ⟨w.heap.size + 1, g, none⟩ (.bool true)) := hw1.setCell (p := ⟨w.heap.size + 1, g, none⟩) (by show w.heap.size ≤ w.heap.size + 1; omega) _
                  have HX := Lib.hid (And.intro x0' (And.intro x1' hb2)); clear x0' x1' hb2
                  clear hrow HNOP HYES hby
                  go_wp2_with fail
                  go_roundw
                  case rel => exact ⟨q + 1, by omega, by go_num, HR2, HX.out.2.2, HX.out.1, HX.out.2.1, by simpa using z1⟩
                  case measure => simp [intOf]; omega
                · have t2 : decide ((0 : Int) ≤ p) = false := decide_eq_false hp0
                  have HR2 : Hid (wr.rowIs (w.heap.size + 1) 4 ne (mkV (mkPart cs m0 true ((evP es e).take (q + 1))))) := by
                    have h := HNOP.out (Or.inr (by omega))
                    rw [hb] at h
                    unfold Hid
                    rw [HTK.out, h]
                    exact hrow.out
                  clear hrow HNOP HYES hby hp0
                  go_wp2_with fail
                  go_roundw
                  case rel => exact ⟨q + 1, by omega, by go_num, HR2, hw1, x0, x1, z1⟩
                  case measure => simp [intOf]; omega
            · have hqq : q = m := by omega
              subst hqq
              have HR2 : Hid (wr.rowIs (w.heap.size + 1) 4 ne (mkV (pastM cs es M (j + 1)))) := by
                have h := hrow.out
                rw [List.take_of_length_le (by rw [HM.out]; exact Nat.le_refl _), ← HMS.out] at h
                exact h
              clear hrow
              go_wp2_with fail
              go_roundw
              case rel => exact ⟨j + 1, by omega, by rw [hei2], HR2, hw1, x0, x1, z1⟩
              case measure => first | (simp [intOf]; omega) | simp [intOf]
        · have hjj : j = ne := by omega
          subst hjj
          have hei : (j : Int) - 1 - (j : Int) = -1 := by omega
          rw [hei]
          obtain ⟨m0, hm0⟩ : ∃ m, m = pastM cs es M es.length := ⟨_, rfl⟩
          have hrow : Hid (wr.rowIs (w.heap.size + 1) 4 j (mkV m0)) := by unfold Hid; rw [hm0, ← HNE.out]; exact hrow.out
          have HG2 : Hid (G = outTo m0 j) := by unfold Hid; rw [hm0, ← HNE.out]; exact HG.out
          clear HG hm0 hei
          go_wp2_with fail
          clear x0 x1
          go_loopw [11, 72] (fun o i wi => ∃ k : Nat, k ≤ j ∧ i = .int .i64 k ∧ Hid (IRow w.heap.size wi o (outTo m0 k) ∧ wi.rowIs (w.heap.size + 1) 4 j (mkV m0)) ∧ Below w.heap.size w wi) (fun _ i _ => j - (intOf i).toNat)
          case atStart => exact ⟨0, Nat.zero_le _, rfl, ⟨World.ownsRow_nil _ _ _ _, hrow.out⟩, hw1⟩
          case round =>
            clear hw1 hrow z1
            obtain ⟨k, hk, rfl, hrow, hw1⟩ := hrel
            by_cases hkl : k < j
            · have ck := hrow.out.2.cell (i := k) hkl
              have i1 : (0 : Int) ≤ (k : Int) := by omega
              have i2 : (k : Int) < (j : Int) := by omega
              have eck : mkV m0 k = .bool (m0 k) := rfl
              rw [eck] at ck
              clear eck
              have hlen := outTo_len m0 k
              cases hb : m0 k with
              | false =>
                rw [hb] at ck
                have HR2 : Hid (IRow w.heap.size wr u11 (outTo m0 (k + 1)) ∧ wr.rowIs (w.heap.size + 1) 4 j (mkV m0)) := by
                  unfold Hid
                  rw [outTo_no hb]
                  exact hrow.out
                clear hrow hb
                go_wp2_with fail
                go_roundw
                case rel => exact ⟨k + 1, by omega, by go_num, HR2, hw1⟩
                case measure => first | (simp [intOf]; omega) | simp [intOf]
              | true =>
                rw [hb] at ck
                have zr := hw1.size
                have HAL := Lib.hid ((World.ownsRow.alloc hrow.out.1 (.cells #[.int .i64 (k : Int)] 3)))
                have HRA := Lib.hid (hrow.out.2.alloc (.cells #[.int .i64 (k : Int)] 3))
                have hwa : Below w.heap.size w (wr.alloc (.cells #[.int .i64 (k : Int)] 3)) := hw1.alloc hw1.size _
                have HOY := Lib.hid (outTo_yes hb)
                clear hb hrow
                go_wp2_with (refine wpList_append_ints rfl (.tmp 78) (.tmp 80) rfl w.heap.size 0 _ _ _ rfl HAL.out _ [(k : Int)] rfl (ints_one _ _ _) (by simp; omega) (by simp; omega) ?_; intro v2 w2 ho2 hg2)
                have hb2 : Below w.heap.size w w2 := hwa.grown hg2 (by simp; omega) (fun q hq => (HAL.out.lt q hq).1)
                have HR2 : Hid (IRow w.heap.size w2 v2 (outTo m0 (k + 1)) ∧ w2.rowIs (w.heap.size + 1) 4 j (mkV m0)) := by
                  unfold Hid
                  rw [HOY.out]
                  refine ⟨by simpa [IRow, intCells] using ho2, HRA.out.of_block (hg2.block _ HRA.out.lt (owns_ne HAL.out (rowIs_ty HRA.out) (by decide)))⟩
                clear ho2 hg2
                go_wp2_with fail
                go_roundw
                case rel => exact ⟨k + 1, by omega, by go_num, HR2, hb2⟩
                case measure => first | (simp [intOf]; omega) | simp [intOf]
            · have hkk : k = j := by omega
              subst hkk
              have hr := hrow.out.1
              rw [← HG2.out] at hr
              have HR := Lib.hid hr
              clear hr hrow
              go_wp2_with fail
              go_ret
              exact ⟨_, rfl, HR.out, hw1⟩

end Go.Proofs.YtigkgfdnnfmmmaaGreat
