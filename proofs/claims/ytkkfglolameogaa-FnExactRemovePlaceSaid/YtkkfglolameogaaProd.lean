/-
  WALKS: slices.Index, slices.Contains of ints; producers, consumers, isUnused of the program.
-/
import Derived.Test.YtkkfglolameogaaApb
import Derived.Test.YtkkfglolameogaaMeet
import Derived.Test.YtkkfglolameogaaStgj
namespace Go.Proofs.Ytkkfglolameogaa
open Go.RowKit

/-- a call returns a number that is at least 0 where x is in the list -/
def RetIdx (w : World) (zs : List Int) (x : Int) (e : Ending) (w' : World) : Prop := ∃ r : Int, e = .returned (.int .i64 r) ∧ -1 ≤ r ∧ r ≤ 4611686018427387904 ∧ hasB zs x = decide (0 ≤ r) ∧ Below w.heap.size w w'

set_option maxHeartbeats 400000 in
theorem Indexi_any (v : Value) (zs : List Int) (x : Int) (w : World) (lo : Nat) (hv : IntsAt lo w v zs) (hn : zs.length ≤ 4611686018427387904) :
    Calls Try.prog 151 #[v, .int .i64 x] w (RetIdx w zs x) := by
  generalize hR : hasB zs x = r
  have HR := Lib.hid hR; clear hR
  obtain ⟨ao, cap, rfl, hc, hz⟩ := hv
  have HF := Lib.hid hz; clear hz
  go_enter Try.func151, Try.ntmps151
  go_wp2_with fail
  go_loop [8] (fun i => ∃ k : Nat, k ≤ zs.length ∧ i = .int .i64 k ∧ Hid (∀ i, i < k → zs.getD i 0 ≠ x)) (fun i => zs.length - (intOf i).toNat)
  case atStart => exact ⟨0, Nat.zero_le _, rfl, fun i hi => absurd hi (Nat.not_lt_zero _)⟩
  case round =>
    obtain ⟨k, hk, rfl, hall⟩ := hrel
    by_cases hlt : k < zs.length
    · rcases HF.out with rfl | ⟨b, off, rfl, hlo, hcell⟩
      · simp at hlt
      have c1 := hcell k hlt
      obtain ⟨y, hy⟩ : ∃ y, y = zs.getD k 0 := ⟨_, rfl⟩
      rw [← hy] at c1
      have HY := Lib.hid hy; clear hy hcell
      by_cases he : y = x
      · have hfin := hasB_true hlt (HY.out.symm.trans he)
        have te : (x == y) = true := by simpa using he.symm
        clear he
        go_wp2_with fail
        go_ret
        refine ⟨(k : Int), rfl, by omega, by omega, ?_, Below.refl _ _⟩
        rw [hfin]; simp
      · have H2 : Hid (∀ i, i < k + 1 → zs.getD i 0 ≠ x) := by
          intro i hi
          by_cases e : i = k
          · subst e; rw [← HY.out]; exact he
          · exact hall.out i (by omega)
        have te : (x == y) = false := by simpa using fun h => he h.symm
        clear he
        go_wp2_with fail
        go_round
        case rel => exact ⟨k + 1, by omega, by go_num, H2⟩
        case measure => simp [intOf]; omega
    · have hkk : k = zs.length := by omega
      subst hkk
      have hfin := hasB_false hall.out
      go_wp2_with fail
      go_ret
      refine ⟨-1, rfl, by omega, by omega, ?_, Below.refl _ _⟩
      rw [hfin]; rfl

set_option maxHeartbeats 400000 in
theorem Containsi_any (v : Value) (zs : List Int) (x : Int) (w : World) (lo : Nat) (hv : IntsAt lo w v zs) (hn : zs.length ≤ 4611686018427387904) :
    Calls Try.prog 135 #[v, .int .i64 x] w (RetB w (hasB zs x)) := by
  generalize hR : hasB zs x = g
  have HR := Lib.hid hR; clear hR
  have hv2 := hv
  obtain ⟨ao, cap, rfl, _, _⟩ := hv2
  have HV := Lib.hid hv; clear hv
  go_enter Try.func135, Try.ntmps135
  go_wp2_with fail
  refine (Indexi_any _ zs x _ lo HV.out hn).mono ?_
  rintro e w1 ⟨r, rfl, h0, h1, hr, hb⟩
  have e1 := HR.out
  rw [hr] at e1
  clear hr
  by_cases h : 0 ≤ r
  · rw [decide_eq_true h] at e1
    subst e1
    go_wp2_with fail
    go_ret
    exact ⟨rfl, hb⟩
  · have h2 := decide_eq_false h
    rw [h2] at e1
    subst e1
    go_wp2_with fail
    go_ret
    exact ⟨rfl, hb⟩

/-- the place p is in Post, or in Pre, of transition i -/
def ofP (ts : List Tr) (p : Int) (post : Bool) (i : Nat) : Bool := bif post then hasB (ts.getD i ([], [])).2 p else hasB (ts.getD i ([], [])).1 p
theorem ofP_post {ts : List Tr} {p : Int} {i : Nat} {t : Tr} (h : t = ts.getD i ([], [])) : ofP ts p true i = hasB t.2 p := by rw [h]; rfl
theorem ofP_pre {ts : List Tr} {p : Int} {i : Nat} {t : Tr} (h : t = ts.getD i ([], [])) : ofP ts p false i = hasB t.1 p := by rw [h]; rfl
/-- the transitions with p in Post, or in Pre -/
def ofL (ts : List Tr) (p : Int) (post : Bool) : List Int := enTo (ofP ts p post) ts.length
theorem ofL_length (ts : List Tr) (p : Int) (post : Bool) : (ofL ts p post).length ≤ ts.length := enTo_length _ _

set_option maxRecDepth 100000 in
set_option maxHeartbeats 1000000 in
theorem producers_any (p : Int) (v : Value) (ts : List Tr) (x : Int) (w : World) (lo : Nat) (hv : TrsAt lo w v ts) (hs : SmallTrs ts) :
    Calls Try.prog 86 #[.agg #[.int .i64 p, v], .int .i64 x] w (RetIntsO w (ofL ts x true)) := by
  obtain ⟨f, hf⟩ : ∃ f, f = ofP ts x true := ⟨_, rfl⟩
  obtain ⟨L, hL⟩ : ∃ L, L = enTo f ts.length := ⟨_, rfl⟩
  have e : ofL ts x true = L := by rw [hL, hf]; rfl
  rw [e]; clear e
  have HF0 := Lib.hid hf; clear hf
  have HL := Lib.hid hL; clear hL
  obtain ⟨ao, cap, rfl, hc, hz⟩ := hv
  obtain ⟨hn, hsm⟩ := hs
  have HF := Lib.hid hz; clear hz
  have HS := Lib.hid hsm; clear hsm
  go_enter Try.func86, Try.ntmps86
  go_wp2_with fail
  have hW : Below w.heap.size w (w.alloc (.cells #[.int .i64 p, .slice ao ts.length cap] 32)) := by (repeat' (first | (with_reducible exact Below.refl _ _) | (with_reducible assumption) | (with_reducible refine Below.alloc ?_ ?_ _) | (with_reducible refine Below.drew ?_) | (with_reducible refine below_drewN ?_ _) | (with_reducible refine Below.setCell ?_ ?_ _) | go_size))
  generalize w.alloc (.cells #[.int .i64 p, .slice ao ts.length cap] 32) = W at hW ⊢
  have zW := hW.size
  go_loopw [5, 11] (fun l i wr => ∃ k : Nat, k ≤ ts.length ∧ i = .int .i64 k ∧ Hid (wr.ownsRow W.heap.size 3 1 l (enTo f k).length (intCells (enTo f k))) ∧ Below W.heap.size W wr) (fun _ i _ => ts.length - (intOf i).toNat)
  case atStart => exact ⟨0, Nat.zero_le _, rfl, World.ownsRow_nil _ _ _ _, Below.refl _ _⟩
  case round =>
    obtain ⟨k, hk, rfl, hown, hb1⟩ := hrel
    have zz1 := hb1.size
    by_cases hlt : k < ts.length
    · rcases HF.out with rfl | ⟨b, off, rfl, hlo, hcell⟩
      · simp at hlt
      obtain ⟨x0, x1, c0', c1', hx⟩ := hcell k hlt
      have hcw := Carries.of lo (hW.trans (hb1.mono zW))
      have d0 := hcw _ _ hlo c0'
      have d1 := hcw _ _ hlo c1'
      obtain ⟨q1, q2⟩ := HS.out k hlt
      obtain ⟨t, htk⟩ : ∃ t, t = ts.getD k ([], []) := ⟨_, rfl⟩
      rw [← htk] at q1 q2 hx
      have hfk : f k = hasB t.2 x := by rw [HF0.out]; exact ofP_post htk
      clear htk
      have hle := enTo_length f k
      have hx' := hx.keep hcw
      have hx2 := hx'
      obtain ⟨⟨a0, k0, rfl, _, _⟩, ⟨a1, k1, rfl, _, _⟩⟩ := hx2
      clear hcell c0' c1' hx hcw
      have hwA : Below W.heap.size W (wr.alloc (.cells #[.slice a0 t.1.length k0, .slice a1 t.2.length k1] 64)) := hb1.alloc zz1 _
      have HA := Lib.hid (World.ownsRow.alloc hown.out (.cells #[.slice a0 t.1.length k0, .slice a1 t.2.length k1] 64))
      have HX := Lib.hid (hx'.keep (w' := wr.alloc (.cells #[.slice a0 t.1.length k0, .slice a1 t.2.length k1] 64)) (by (repeat' (first | (with_reducible exact Carries.refl _ _) | (with_reducible assumption) | (with_reducible refine Carries.alloc ?_ _) | (with_reducible refine Carries.drew ?_) | (with_reducible refine Carries.drewN ?_ _) | (with_reducible refine Carries.set ?_ ?_ _) | go_size))))
      clear hown hx'
      go_wp2_with fail
      refine (Containsi_any _ t.2 x _ lo HX.out.2 (by omega)).mono ?_
      rintro e w1 ⟨rfl, hb⟩
      have hw1 : Below W.heap.size W w1 := hwA.trans (hb.mono hwA.size)
      have HA1 := Lib.hid (owns_after HA.out hb)
      clear hb HA HX
      rw [← hfk]
      clear hfk
      have zz2 := hw1.size
      cases hd : f k with
      | false =>
        have he := enTo_false hd
        have HO4 := Lib.hid (show w1.ownsRow W.heap.size 3 1 u5 (enTo f (k + 1)).length (intCells (enTo f (k + 1))) by rw [he]; exact HA1.out)
        clear he hd
        go_wp2_with fail
        go_roundw
        case rel => exact ⟨k + 1, by omega, by go_num, HO4, hw1⟩
        case measure => simp [intOf]; omega
      | true =>
        have he := Lib.hid (enTo_true hd)
        clear hd
        go_wp2_with (refine wpList_append_ints rfl (.tmp 20) (.tmp 22) rfl W.heap.size 0 _ _ _ rfl (World.ownsRow.alloc HA1.out _) _ [(k : Int)] rfl (ints_one _ _ _) (by simp; omega) (by simp; omega) ?_; intro v' w' hown' hgrow)
        have hw4 : Below W.heap.size W w' := (hw1.alloc (by omega) _).grown hgrow (by simp; omega) (fun g hg => (HA1.out.lt g hg).1)
        have HO4 := Lib.hid (show w'.ownsRow W.heap.size 3 1 v' (enTo f (k + 1)).length (intCells (enTo f (k + 1))) by rw [he.out, List.length_append, intCells_append]; exact hown')
        go_wp2_with fail
        go_roundw
        case rel => exact ⟨k + 1, by omega, by go_num, HO4.out, hw4⟩
        case measure => simp [intOf]; omega
    · have hkk : k = ts.length := by omega
      have HO2 : Hid (IntsOw w.heap.size wr u5 L) := by
        have h := ow_of_owns (Go.Joins.ownsRow_le hown.out zW)
        rw [hkk, ← HL.out] at h
        exact h
      subst hkk
      go_wp2_with fail
      go_ret
      exact ⟨_, rfl, HO2.out, hW.trans (hb1.mono zW)⟩

set_option maxRecDepth 100000 in
set_option maxHeartbeats 1000000 in
theorem consumers_any (p : Int) (v : Value) (ts : List Tr) (x : Int) (w : World) (lo : Nat) (hv : TrsAt lo w v ts) (hs : SmallTrs ts) :
    Calls Try.prog 87 #[.agg #[.int .i64 p, v], .int .i64 x] w (RetIntsO w (ofL ts x false)) := by
  obtain ⟨f, hf⟩ : ∃ f, f = ofP ts x false := ⟨_, rfl⟩
  obtain ⟨L, hL⟩ : ∃ L, L = enTo f ts.length := ⟨_, rfl⟩
  have e : ofL ts x false = L := by rw [hL, hf]; rfl
  rw [e]; clear e
  have HF0 := Lib.hid hf; clear hf
  have HL := Lib.hid hL; clear hL
  obtain ⟨ao, cap, rfl, hc, hz⟩ := hv
  obtain ⟨hn, hsm⟩ := hs
  have HF := Lib.hid hz; clear hz
  have HS := Lib.hid hsm; clear hsm
  go_enter Try.func87, Try.ntmps87
  go_wp2_with fail
  have hW : Below w.heap.size w (w.alloc (.cells #[.int .i64 p, .slice ao ts.length cap] 32)) := by (repeat' (first | (with_reducible exact Below.refl _ _) | (with_reducible assumption) | (with_reducible refine Below.alloc ?_ ?_ _) | (with_reducible refine Below.drew ?_) | (with_reducible refine below_drewN ?_ _) | (with_reducible refine Below.setCell ?_ ?_ _) | go_size))
  generalize w.alloc (.cells #[.int .i64 p, .slice ao ts.length cap] 32) = W at hW ⊢
  have zW := hW.size
  go_loopw [5, 11] (fun l i wr => ∃ k : Nat, k ≤ ts.length ∧ i = .int .i64 k ∧ Hid (wr.ownsRow W.heap.size 3 1 l (enTo f k).length (intCells (enTo f k))) ∧ Below W.heap.size W wr) (fun _ i _ => ts.length - (intOf i).toNat)
  case atStart => exact ⟨0, Nat.zero_le _, rfl, World.ownsRow_nil _ _ _ _, Below.refl _ _⟩
  case round =>
    obtain ⟨k, hk, rfl, hown, hb1⟩ := hrel
    have zz1 := hb1.size
    by_cases hlt : k < ts.length
    · rcases HF.out with rfl | ⟨b, off, rfl, hlo, hcell⟩
      · simp at hlt
      obtain ⟨x0, x1, c0', c1', hx⟩ := hcell k hlt
      have hcw := Carries.of lo (hW.trans (hb1.mono zW))
      have d0 := hcw _ _ hlo c0'
      have d1 := hcw _ _ hlo c1'
      obtain ⟨q1, q2⟩ := HS.out k hlt
      obtain ⟨t, htk⟩ : ∃ t, t = ts.getD k ([], []) := ⟨_, rfl⟩
      rw [← htk] at q1 q2 hx
      have hfk : f k = hasB t.1 x := by rw [HF0.out]; exact ofP_pre htk
      clear htk
      have hle := enTo_length f k
      have hx' := hx.keep hcw
      have hx2 := hx'
      obtain ⟨⟨a0, k0, rfl, _, _⟩, ⟨a1, k1, rfl, _, _⟩⟩ := hx2
      clear hcell c0' c1' hx hcw
      have hwA : Below W.heap.size W (wr.alloc (.cells #[.slice a0 t.1.length k0, .slice a1 t.2.length k1] 64)) := hb1.alloc zz1 _
      have HA := Lib.hid (World.ownsRow.alloc hown.out (.cells #[.slice a0 t.1.length k0, .slice a1 t.2.length k1] 64))
      have HX := Lib.hid (hx'.keep (w' := wr.alloc (.cells #[.slice a0 t.1.length k0, .slice a1 t.2.length k1] 64)) (by (repeat' (first | (with_reducible exact Carries.refl _ _) | (with_reducible assumption) | (with_reducible refine Carries.alloc ?_ _) | (with_reducible refine Carries.drew ?_) | (with_reducible refine Carries.drewN ?_ _) | (with_reducible refine Carries.set ?_ ?_ _) | go_size))))
      clear hown hx'
      go_wp2_with fail
      refine (Containsi_any _ t.1 x _ lo HX.out.1 (by omega)).mono ?_
      rintro e w1 ⟨rfl, hb⟩
      have hw1 : Below W.heap.size W w1 := hwA.trans (hb.mono hwA.size)
      have HA1 := Lib.hid (owns_after HA.out hb)
      clear hb HA HX
      rw [← hfk]
      clear hfk
      have zz2 := hw1.size
      cases hd : f k with
      | false =>
        have he := enTo_false hd
        have HO4 := Lib.hid (show w1.ownsRow W.heap.size 3 1 u5 (enTo f (k + 1)).length (intCells (enTo f (k + 1))) by rw [he]; exact HA1.out)
        clear he hd
        go_wp2_with fail
        go_roundw
        case rel => exact ⟨k + 1, by omega, by go_num, HO4, hw1⟩
        case measure => simp [intOf]; omega
      | true =>
        have he := Lib.hid (enTo_true hd)
        clear hd
        go_wp2_with (refine wpList_append_ints rfl (.tmp 20) (.tmp 22) rfl W.heap.size 0 _ _ _ rfl (World.ownsRow.alloc HA1.out _) _ [(k : Int)] rfl (ints_one _ _ _) (by simp; omega) (by simp; omega) ?_; intro v' w' hown' hgrow)
        have hw4 : Below W.heap.size W w' := (hw1.alloc (by omega) _).grown hgrow (by simp; omega) (fun g hg => (HA1.out.lt g hg).1)
        have HO4 := Lib.hid (show w'.ownsRow W.heap.size 3 1 v' (enTo f (k + 1)).length (intCells (enTo f (k + 1))) by rw [he.out, List.length_append, intCells_append]; exact hown')
        go_wp2_with fail
        go_roundw
        case rel => exact ⟨k + 1, by omega, by go_num, HO4.out, hw4⟩
        case measure => simp [intOf]; omega
    · have hkk : k = ts.length := by omega
      have HO2 : Hid (IntsOw w.heap.size wr u5 L) := by
        have h := ow_of_owns (Go.Joins.ownsRow_le hown.out zW)
        rw [hkk, ← HL.out] at h
        exact h
      subst hkk
      go_wp2_with fail
      go_ret
      exact ⟨_, rfl, HO2.out, hW.trans (hb1.mono zW)⟩

end Go.Proofs.Ytkkfglolameogaa
