/- WALK: distancesFrom of the program.
   PLAIN PART: an int is among ints. No program is named here.
   WALKS: slices.Index, slices.Contains of ints.
   WALK: l1In of the model. -/
import Derived.Test.YtnmoocgocnjdjaaGreatVNxt
import Derived.Test.YtnmoocgocnjdjaaGreatVMul
import Derived.Test.YtnmoocgocnjdjaaGreatVBfs
import Derived.Test.YtnmoocgocnjdjaaGreatVTgt
import Derived.Test.YtnmoocgocnjdjaaGreatVSrt
import Derived.Test.YtnmoocgocnjdjaaGreatVSigas
namespace Go.Proofs.YtnmoocgocnjdjaaGreat
open Go.RowKit

def qi (Q : List Nat) : List Int := Q.map (fun (k : Nat) => (k : Int))
theorem qi_length (Q : List Nat) : (qi Q).length = Q.length := by simp [qi]
theorem qi_snoc (Q : List Nat) (t : Nat) : intCells (qi (Q ++ [t])) = intCells (qi Q) ++ [.int .i64 (t : Int)] := by simp [qi, intCells]
theorem qi_get {Q : List Nat} {i : Nat} (h : i < Q.length) : (intCells (qi Q))[i]? = some (.int .i64 ((qAt Q i : Nat) : Int)) := by
  simp [qi, intCells, qAt, List.getD, h]
def dV (D : Nat → Int) : Nat → Value := fun k => .int .i64 (D k)
theorem dV_upd (D : Nat → Int) (t : Nat) (x : Int) : (fun j => if j = t then Value.int .i64 x else dV D j) = dV (updD D t x) := by
  funext j
  unfold dV updD
  by_cases e : j = t
  · rw [if_pos e, if_pos e]
  · rw [if_neg e, if_neg e]
theorem owns_one (w : World) (z : Int) : (w.alloc (.cells #[.int .i64 z] 3)).ownsRow w.heap.size 3 1 (.slice (some ⟨w.heap.size, 0, none⟩) 1 1) 1 [.int .i64 z] :=
  ⟨rfl, Or.inr ⟨w.heap.size, 1, #[.int .i64 z], rfl, Nat.le_refl _, heap_alloc_new w _, Nat.le_refl _, by unfold maxLen; omega, rfl, rfl⟩⟩

theorem ownsRow_low {w : World} {B B' : Nat} {e : TypeId} {sz : Nat} {v : Value} {n : Nat} {xs : List Value} (h : w.ownsRow B e sz v n xs) (hB : B' ≤ B) : w.ownsRow B' e sz v n xs := by
  refine ⟨h.1, ?_⟩
  rcases h.2 with hn | ⟨g, cap, cur, rfl, hb, rest⟩
  · exact Or.inl hn
  · exact Or.inr ⟨g, cap, cur, rfl, Nat.le_trans hB hb, rest⟩

/-- a call returns a row of its own: how far each place is from s -/
def RetDist (w : World) (n : Nat) (L : Nat → List Int) (s : Nat) (e : Ending) (w' : World) : Prop :=
  ∃ (b : Nat) (D : Nat → Int), e = .returned (.slice (some ⟨b, 0, none⟩) n n) ∧ w.heap.size ≤ b ∧ b < w'.heap.size ∧ w'.rowIs b 3 n (dV D) ∧ Dist n L s D ∧ Below w.heap.size w w'

set_option maxRecDepth 100000 in
set_option maxHeartbeats 4000000 in
theorem distancesFrom_any (v : Value) (n : Nat) (L : Nat → List Int) (s : Nat) (w : World) (lo : Nat) (hv : NextsAt lo w v n L) (hs : s < n) (hn : n ≤ 1048576) (hL : InB n L) (hLl : ∀ k, k < n → (L k).length ≤ 1048576) :
    Calls Tryz.prog 187 #[v, .int .i64 (s : Int)] w (RetDist w n L s) := by
  obtain ⟨nb, noff, ncap, rfl, hnc, hlo, hcells⟩ := hv
  obtain ⟨i0, hi0, hz0, hz1, hz2⟩ := info_parts Tryz.infoInt
  have HC := Lib.hid hcells; clear hcells
  have HL := Lib.hid hL; clear hL
  have HLL := Lib.hid hLl; clear hLl
  have hs0 : (0 : Int) ≤ (s : Int) := Int.natCast_nonneg _
  have hs1 : (s : Int) < (n : Int) := by omega
  go_enter Tryz.func187, Tryz.ntmps187
  go_wp2_with fail
  refine (Repeat_any w.heap.size 0 1 (-1) n _ (by simp) (by omega) hn).mono ?_
  rintro e w1 ⟨db, rfl, hdb0, hdb1, hrow, hb⟩
  have hw1 : Below w.heap.size w w1 := by
    refine Below.trans ?_ (hb.mono ?_)
    · (repeat' (first | (with_reducible exact Below.refl _ _) | (with_reducible assumption) | (with_reducible refine Below.alloc ?_ ?_ _) | (with_reducible refine Below.drew ?_) | (with_reducible refine below_drewN ?_ _) | (with_reducible refine Below.setCell ?_ ?_ _) | go_size))
    · simp
  have hdb : w.heap.size ≤ db := by simp at hdb0; omega
  have z1 : w.heap.size < w1.heap.size := by have := hb.size; simp at this; omega
  clear hb hdb0
  have c0 := hrow.cell hs
  have f0 := hrow.frozen s
  have HR0 : Hid ((w1.setCell ⟨db, s, none⟩ (.int .i64 0)).rowIs db 3 n (dV (updD (fun _ => -1) s 0))) := by
    have := hrow.set s (.int .i64 0)
    unfold Hid
    rw [← dV_upd]
    exact this
  clear hrow
  have hown0 := owns_one (w1.setCell ⟨db, s, none⟩ (.int .i64 0)) (s : Int)
  rw [World.size_setCell] at hown0
  have hwB : Below w.heap.size w ((w1.setCell ⟨db, s, none⟩ (.int .i64 0)).alloc (.cells #[.int .i64 (s : Int)] 3)) :=
    (hw1.setCell (p := ⟨db, s, none⟩) hdb _).alloc (by simp; omega) _
  have HO0 := Lib.hid (ownsRow_low hown0 (by omega : w.heap.size ≤ w1.heap.size)); clear hown0
  have HB0 := Lib.hid hwB; clear hwB
  have HR1 := Lib.hid (HR0.out.alloc (.cells #[.int .i64 (s : Int)] 3)); clear HR0
  go_wp2_with fail
  go_loopw [6, 7] (fun rv iv wr => ∃ (i g cap : Nat) (Q : List Nat) (D : Nat → Int), i ≤ Q.length ∧ iv = .int .i64 i ∧ rv = .slice (some ⟨g, 0, none⟩) Q.length cap ∧ Hid (BInv n L s D Q i 0) ∧ Hid (wr.rowIs db 3 n (dV D)) ∧
      Hid (wr.ownsRow w.heap.size 3 1 (.slice (some ⟨g, 0, none⟩) Q.length cap) Q.length (intCells (qi Q))) ∧ g ≠ db ∧ Q.length ≤ n ∧ Below w.heap.size w wr) (fun _ iv _ => n - (intOf iv).toNat)
  case atStart => exact ⟨0, w1.heap.size, 1, [s], _, Nat.zero_le _, rfl, by simp, BInv.start L hs, HR1.out, HO0.out, by omega, by simp; omega, HB0.out⟩
  case round =>
    obtain ⟨i, g, cap, Q, D, hi, rfl, rfl, hinv, hrow, hown, hgd, hQn, hbr⟩ := hrel
    clear HO0 HB0 HR1
    by_cases hlt : i < Q.length
    · obtain ⟨c, hc⟩ : ∃ c, c = qAt Q i := ⟨_, rfl⟩
      have hcn : c < n := by rw [hc]; exact hinv.out.qn _ (qAt_mem hlt)
      have cg : wr.cell? ⟨g, i, none⟩ = some (.int .i64 (c : Int)) := by
        rw [hc, hown.out.cellAt i (by omega)]
        exact qi_get hlt
      have HQC := Lib.hid hc.symm; clear hc
      obtain ⟨u, hu, hua⟩ := HC.out c hcn
      have cu := Carries.of lo hbr _ _ hlo hu
      obtain ⟨ua, uc, rfl, huc, huz⟩ := hua
      have HU := Lib.hid huz; clear huz hu
      have hLc := HLL.out c hcn
      have hcn1 : (c : Int) < (n : Int) := by omega
      have hcn0 : (0 : Int) ≤ (c : Int) := Int.natCast_nonneg _
      obtain ⟨len, hlen⟩ : ∃ len, len = (L c).length := ⟨_, rfl⟩
      rw [← hlen] at cu hLc huc HU
      have HLN := Lib.hid hlen; clear hlen
      obtain ⟨wo, rfl⟩ : ∃ wo, wo = wr := ⟨_, rfl⟩
      go_wp2_with fail
      go_loopw [6, 33] (fun rv jv wr => ∃ (j g cap : Nat) (Q : List Nat) (D : Nat → Int), j ≤ len ∧ jv = .int .i64 j ∧ rv = .slice (some ⟨g, 0, none⟩) Q.length cap ∧ Hid (BInv n L s D Q i j) ∧ Hid (qAt Q i = c) ∧ Hid (wr.rowIs db 3 n (dV D)) ∧
          Hid (wr.ownsRow w.heap.size 3 1 (.slice (some ⟨g, 0, none⟩) Q.length cap) Q.length (intCells (qi Q))) ∧ g ≠ db ∧ i < Q.length ∧ Q.length ≤ n ∧ Below w.heap.size w wr) (fun _ jv _ => len - (intOf jv).toNat)
      case atStart => exact ⟨0, g, cap, Q, D, Nat.zero_le _, rfl, rfl, hinv, HQC.out, hrow, hown, hgd, hlt, hQn, hbr⟩
      case round =>
        clear hinv hrow hown hgd hQn hbr hlt hi HQC cg cu
        obtain ⟨j, g, cap, Q, D, hj, rfl, rfl, hinv, hqc, hrow, hown, hgd, hlt, hQn, hbr⟩ := hrel
        by_cases hjl : j < len
        · rcases HU.out with h0 | ⟨ub, uoff, rfl, hulo, hucell⟩
          · exfalso
            have := HLN.out
            rw [h0] at this
            simp at this
            omega
          have hjL : j < (L c).length := by have := HLN.out; omega
          have cx := Carries.of lo hbr _ _ hulo (hucell j hjl)
          clear hucell
          have hxin := HL.out c hcn ((L c).getD j 0) (by rw [getD_eq hjL]; exact List.getElem_mem hjL)
          obtain ⟨t, ht⟩ := Int.eq_ofNat_of_zero_le hxin.1
          rw [ht] at cx hxin
          have htn : t < n := by omega
          have htn0 : (0 : Int) ≤ (t : Int) := hxin.1
          have htn1 : (t : Int) < (n : Int) := hxin.2
          have hjx : (L c)[j]? = some (t : Int) := by rw [List.getElem?_eq_getElem hjL, ← getD_eq hjL, ht]
          have HJX := Lib.hid hjx; clear hjx ht hxin
          have ct : wr.cell? ⟨db, t, none⟩ = some (.int .i64 (D t)) := hrow.out.cell htn
          have ft := hrow.out.frozen t
          have hzr : w.heap.size ≤ wr.heap.size := hbr.size
          have hdbr := hrow.out.lt
          by_cases hneg : D t < 0
          · have hinv2 := Lib.hid (hinv.out.new HL.out hs hlt (t := t) (by rw [hqc.out]; exact HJX.out) hneg)
            have hlen2 : (Q ++ [t]).length ≤ n := hinv2.out.len
            rw [List.length_append] at hlen2
            simp only [List.length_cons, List.length_nil, Nat.zero_add] at hlen2
            have cg : wr.cell? ⟨g, i, none⟩ = some (.int .i64 (c : Int)) := by
              rw [hown.out.cellAt i (by omega)]
              have := qi_get hlt
              rw [hqc.out] at this
              exact this
            have cc : wr.cell? ⟨db, c, none⟩ = some (.int .i64 (D c)) := hrow.out.cell hcn
            have hDc0 : 0 ≤ D c := by
              have h1 := hinv.out.vis c hcn
              exact h1.2 (by rw [← hqc.out]; exact qAt_mem hlt)
            have hDc1 : D c ≤ 1048576 := by
              have h1 := hinv.out.bnd i hlt
              rw [hqc.out] at h1
              omega
            have HR2 : Hid ((wr.setCell ⟨db, t, none⟩ (.int .i64 (D c + 1))).rowIs db 3 n (dV (updD D t (D c + 1)))) := by
              unfold Hid
              rw [← dV_upd]
              exact hrow.out.set t _
            have hinv3 : Hid (BInv n L s (updD D t (D c + 1)) (Q ++ [t]) i (j + 1)) := by
              have := hinv2.out
              rw [hqc.out] at this
              exact this
            have HQ2 : Hid (qAt (Q ++ [t]) i = c) := by unfold Hid; rw [qAt_old hlt]; exact hqc.out
            have HO2 : Hid ((wr.setCell ⟨db, t, none⟩ (.int .i64 (D c + 1))).ownsRow w.heap.size 3 1 (.slice (some ⟨g, 0, none⟩) Q.length cap) Q.length (intCells (qi Q))) :=
              ownsRow_keep hown.out (fun b hb _ => Below.heap_setCell _ _ _ _ (by simp only [Value.ownBlock, Option.some.injEq] at hb; show b ≠ db; omega))
            clear hinv hinv2 hqc hrow hown
            generalize D c = dc at cc hDc0 hDc1 HR2 hinv3 HO2
            generalize D t = dt at ct hneg
            go_wp2_with (at_builtin; refine wpList_append_lies _ rfl _ _ _ rfl w.heap.size 3 i0 _ 1 8 Tryz.underlying29 hi0 hz0 hz1 hz2 rfl (by omega) _ Q.length (intCells (qi Q)) rfl (HO2.out.alloc _) ⟨wr.heap.size, 0, none⟩ 1 1 [.int .i64 (t : Int)] rfl rfl (World.news_of_block (cs := #[.int .i64 (t : Int)]) (t := 3) (fr := (0, 0)) (by simpa using heap_alloc_new (wr.setCell ⟨db, t, none⟩ (.int .i64 (dc + 1))) (.cells #[.int .i64 (t : Int)] 3))) (by simp [Value.oneCell']) (by omega) (by unfold maxLen; omega) (by omega) (by simp; omega) (wr.heap.size + 1) (by simp) ?_; intro g2 cap2 w3 hown3 hgrow hat hlt3)
            have hbA : Below wr.heap.size wr ((wr.setCell ⟨db, t, none⟩ (.int .i64 (dc + 1))).alloc (.cells #[.int .i64 (t : Int)] 3)) → True := fun _ => trivial
            clear hbA
            have HOF : Hid (w3.ownsRow w.heap.size 3 1 (.slice (some ⟨g2, 0, none⟩) (Q ++ [t]).length cap2) (Q ++ [t]).length (intCells (qi (Q ++ [t])))) := by
              unfold Hid
              rw [List.length_append, qi_snoc]
              exact hown3
            have HRF : Hid (w3.rowIs db 3 n (dV (updD D t (dc + 1)))) := by
              have h1 := HR2.out.alloc (.cells #[.int .i64 (t : Int)] 3)
              exact h1.of_block (hgrow.block db (by simp; omega) (fun h => hgd (Option.some.inj h).symm))
            have hg2 : g2 ≠ db := by
              rcases hat with h | h
              · have h2 : g = g2 := Option.some.inj h
                omega
              · omega
            have hgw : w.heap.size ≤ g := ownsRow_ge HO2.out rfl
            have hw3 : Below w.heap.size w w3 := by
              have h1 : Below w.heap.size w ((wr.setCell ⟨db, t, none⟩ (.int .i64 (dc + 1))).alloc (.cells #[.int .i64 (t : Int)] 3)) := (hbr.setCell (p := ⟨db, t, none⟩) hdb _).alloc (by simp; omega) _
              refine h1.trans ⟨hgrow.os, hgrow.tape, hgrow.output, hgrow.size, fun b hb => hgrow.block b (by simp; omega) (fun h => ?_)⟩
              have h2 : b = g := Option.some.inj h
              omega
            clear hown3 hgrow hat HO2 HR2 ct ft cg cc
            go_roundw
            case rel => exact ⟨j + 1, g2, cap2, Q ++ [t], updD D t (dc + 1), by omega, by go_num, by simp, hinv3, HQ2, HRF, HOF, hg2, by simp; omega, by simp; omega, hw3⟩
            case measure => simp [intOf]; omega
          · have hinv2 := Lib.hid (hinv.out.old (x := (t : Int)) (by rw [hqc.out]; exact HJX.out) (by rw [Int.toNat_natCast]; omega))
            clear hinv
            generalize D t = dt at ct hneg
            go_wp2_with fail
            go_roundw
            case rel => exact ⟨j + 1, g, cap, Q, D, by omega, by go_num, rfl, hinv2, hqc, hrow, hown, hgd, hlt, hQn, hbr⟩
            case measure => simp [intOf]; omega
        · have hinv2 := Lib.hid (hinv.out.next hlt (by rw [hqc.out, ← HLN.out]; omega))
          clear hinv hqc
          go_wp2_with fail
          go_roundw
          case rel => exact ⟨i + 1, g, cap, Q, D, by omega, by go_num, rfl, hinv2, hrow, hown, hgd, hQn, hbr⟩
          case measure => simp [intOf]; omega
    · have hii : i = Q.length := by omega
      subst hii
      have hfin := Lib.hid (hinv.out.dist HL.out hs)
      have hdbl := hrow.out.lt
      clear hinv hown
      go_wp2_with fail
      go_ret
      exact ⟨db, D, rfl, hdb, hdbl, hrow.out, hfin.out, hbr⟩

end Go.Proofs.YtnmoocgocnjdjaaGreat

namespace Go.Proofs.YtnmoocgocnjdjaaGreat
open Go.RowKit

def hasB (l : List Int) (x : Int) : Bool := decide (x ∈ l)
theorem hasB_true {l : List Int} {x : Int} {k : Nat} (hk : k < l.length) (h : l.getD k 0 = x) : hasB l x = true := by
  rw [getD_eq hk] at h; subst h
  exact decide_eq_true (List.getElem_mem hk)
theorem hasB_false {l : List Int} {x : Int} (h : ∀ i, i < l.length → l.getD i 0 ≠ x) : hasB l x = false := by
  refine decide_eq_false fun hm => ?_
  obtain ⟨i, hi, he⟩ := List.mem_iff_getElem.1 hm
  exact h i hi (by rw [getD_eq hi]; exact he)

end Go.Proofs.YtnmoocgocnjdjaaGreat

namespace Go.Proofs.YtnmoocgocnjdjaaGreat
open Go.RowKit

/-- a call returns a number that is at least 0 where x is in the list -/
def RetIdx (w : World) (zs : List Int) (x : Int) (e : Ending) (w' : World) : Prop := ∃ r : Int, e = .returned (.int .i64 r) ∧ -1 ≤ r ∧ r ≤ 4611686018427387904 ∧ hasB zs x = decide (0 ≤ r) ∧ Below w.heap.size w w'

set_option maxHeartbeats 400000 in
theorem Indexi_any (v : Value) (zs : List Int) (x : Int) (w : World) (lo : Nat) (hv : IntsAt lo w v zs) (hn : zs.length ≤ 4611686018427387904) :
    Calls Tryz.prog 219 #[v, .int .i64 x] w (RetIdx w zs x) := by
  generalize hR : hasB zs x = r
  have HR := Lib.hid hR; clear hR
  obtain ⟨ao, cap, rfl, hc, hz⟩ := hv
  have HF := Lib.hid hz; clear hz
  go_enter Tryz.func219, Tryz.ntmps219
  go_wp2_with fail
  go_loop [8] (fun i => ∃ k : Nat, k ≤ zs.length ∧ i = .int .i64 k ∧ Hid (∀ i, i < k → zs.getD i 0 ≠ x)) (fun i => zs.length - (intOf i).toNat)
  case atStart => exact ⟨0, Nat.zero_le _, rfl, fun i hi => absurd hi (Nat.not_lt_zero _)⟩
  case round =>
    obtain ⟨k, hk, rfl, hall⟩ := hrel
    by_cases hlt : k < zs.length
    · rcases HF.out with rfl | ⟨b, off, rfl, hlo, hcell⟩
      · simp at hlt
      have c1 := hcell k hlt
      obtain ⟨y, hy⟩ : ∃ y, y = zs.getD k 0 := ⟨_, rfl⟩
      rw [← hy] at c1
      have HY := Lib.hid hy; clear hy hcell
      by_cases he : y = x
      · have hfin := hasB_true hlt (HY.out.symm.trans he)
        have te : (x == y) = true := by simpa using he.symm
        clear he
        go_wp2_with fail
        go_ret
        refine ⟨(k : Int), rfl, by omega, by omega, ?_, Below.refl _ _⟩
        rw [hfin]; simp
      · have H2 : Hid (∀ i, i < k + 1 → zs.getD i 0 ≠ x) := by
          intro i hi
          by_cases e : i = k
          · subst e; rw [← HY.out]; exact he
          · exact hall.out i (by omega)
        have te : (x == y) = false := by simpa using fun h => he h.symm
        clear he
        go_wp2_with fail
        go_round
        case rel => exact ⟨k + 1, by omega, by go_num, H2⟩
        case measure => simp [intOf]; omega
    · have hkk : k = zs.length := by omega
      subst hkk
      have hfin := hasB_false hall.out
      go_wp2_with fail
      go_ret
      refine ⟨-1, rfl, by omega, by omega, ?_, Below.refl _ _⟩
      rw [hfin]; rfl

set_option maxHeartbeats 400000 in
theorem Containsi_any (v : Value) (zs : List Int) (x : Int) (w : World) (lo : Nat) (hv : IntsAt lo w v zs) (hn : zs.length ≤ 4611686018427387904) :
    Calls Tryz.prog 189 #[v, .int .i64 x] w (RetB w (hasB zs x)) := by
  generalize hR : hasB zs x = g
  have HR := Lib.hid hR; clear hR
  have hv2 := hv
  obtain ⟨ao, cap, rfl, _, _⟩ := hv2
  have HV := Lib.hid hv; clear hv
  go_enter Tryz.func189, Tryz.ntmps189
  go_wp2_with fail
  refine (Indexi_any _ zs x _ lo HV.out hn).mono ?_
  rintro e w1 ⟨r, rfl, h0, h1, hr, hb⟩
  have e1 := HR.out
  rw [hr] at e1
  clear hr
  by_cases h : 0 ≤ r
  · rw [decide_eq_true h] at e1
    subst e1
    go_wp2_with fail
    go_ret
    exact ⟨rfl, hb⟩
  · have h2 := decide_eq_false h
    rw [h2] at e1
    subst e1
    go_wp2_with fail
    go_ret
    exact ⟨rfl, hb⟩

end Go.Proofs.YtnmoocgocnjdjaaGreat

namespace Go.Proofs.YtnmoocgocnjdjaaGreat
open Go.RowKit

theorem l1In_any (n lo hi : Int) (w : World) :
    Calls Tryz.prog 67 #[.int .i64 n, .int .i64 lo, .int .i64 hi] w (RetB w (decide (lo ≤ n ∧ n ≤ hi))) := by
  by_cases h1 : lo ≤ n
  · by_cases h2 : n ≤ hi
    · rw [decide_eq_true (⟨h1, h2⟩ : lo ≤ n ∧ n ≤ hi)]
      go_enter Tryz.func67, Tryz.ntmps67
      go_wp2_with fail
      go_ret
      exact ⟨rfl, Below.refl _ _⟩
    · rw [decide_eq_false (fun h => h2 h.2 : ¬ (lo ≤ n ∧ n ≤ hi))]
      go_enter Tryz.func67, Tryz.ntmps67
      go_wp2_with fail
      go_ret
      exact ⟨rfl, Below.refl _ _⟩
  · rw [decide_eq_false (fun h => h1 h.1 : ¬ (lo ≤ n ∧ n ≤ hi))]
    go_enter Tryz.func67, Tryz.ntmps67
    go_wp2_with fail
    go_ret
    exact ⟨rfl, Below.refl _ _⟩

end Go.Proofs.YtnmoocgocnjdjaaGreat
