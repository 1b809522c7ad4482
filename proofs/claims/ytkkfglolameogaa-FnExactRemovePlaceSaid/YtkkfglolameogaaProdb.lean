/-
  WALKS: isUnused of the program; l3Of, l3Unused of the model.
-/
import Derived.Test.YtkkfglolameogaaProd
import Derived.Test.YtkkfglolameogaaStgt
namespace Go.Proofs.Ytkkfglolameogaa
open Go.RowKit

/-- no transition has the place -/
def unusedB (ts : List Tr) (x : Int) : Bool := decide ((ofL ts x true).length = 0) && decide ((ofL ts x false).length = 0)

set_option maxRecDepth 100000 in
set_option maxHeartbeats 1000000 in
theorem l3Of_true (v : Value) (s : StgD) (x : Int) (w : World) (lo : Nat) (hv : StgAt lo w v s) (hs : SmallStg s) :
    Calls Try.prog 134 #[v, .int .i64 x, .bool true] w (RetIntsO w (ofL s.net.ts x true)) := by
  obtain ⟨ao, cap, a1, c1, a2, c2, rfl, hn, hsg, hl⟩ := hv.form
  clear hsg hl hv
  obtain ⟨ts, hts⟩ : ∃ ts, ts = s.net.ts := ⟨_, rfl⟩
  obtain ⟨_, _, u, hu, ht⟩ := hn
  have hs := hs.1
  rw [← hts] at hs ht hu ⊢
  obtain ⟨ao', cap', rfl, hc, hz⟩ := ht
  simp only [Value.agg.injEq, Array.mk.injEq, List.cons.injEq, Value.slice.injEq, true_and, and_true] at hu
  obtain ⟨rfl, rfl⟩ := hu
  generalize s.net.places = p
  generalize s.sigs.length = ns
  generalize s.labs.length = nl
  generalize s.start = st
  clear hts
  obtain ⟨f, hf⟩ : ∃ f, f = ofP ts x true := ⟨_, rfl⟩
  obtain ⟨L, hL⟩ : ∃ L, L = enTo f ts.length := ⟨_, rfl⟩
  have e : ofL ts x true = L := by rw [hL, hf]; rfl
  rw [e]; clear e
  have HF0 := Lib.hid hf; clear hf
  have HL := Lib.hid hL; clear hL
  obtain ⟨hn, hsm⟩ := hs
  have HF := Lib.hid hz; clear hz
  have HS := Lib.hid hsm; clear hsm
  generalize hm : ts.length = m at hc HF HS hn ⊢
  have HM := Lib.hid hm; clear hm
  go_enter Try.func134, Try.ntmps134
  go_wp2_with fail
  have hW : Below w.heap.size w (w.alloc (.cells #[.int .i64 p, .slice ao m cap, .slice a1 ns c1, .slice a2 nl c2, .string st] 36)) := by (repeat' (first | (with_reducible exact Below.refl _ _) | (with_reducible assumption) | (with_reducible refine Below.alloc ?_ ?_ _) | (with_reducible refine Below.drew ?_) | (with_reducible refine below_drewN ?_ _) | (with_reducible refine Below.setCell ?_ ?_ _) | go_size))
  generalize w.alloc (.cells #[.int .i64 p, .slice ao m cap, .slice a1 ns c1, .slice a2 nl c2, .string st] 36) = W at hW ⊢
  have zW := hW.size
  go_loopw [7, 14] (fun l i wr => ∃ k : Nat, k ≤ m ∧ i = .int .i64 k ∧ Hid (wr.ownsRow W.heap.size 3 1 l (enTo f k).length (intCells (enTo f k))) ∧ Below W.heap.size W wr) (fun _ i _ => m - (intOf i).toNat)
  case atStart => exact ⟨0, Nat.zero_le _, rfl, World.ownsRow_nil _ _ _ _, Below.refl _ _⟩
  case round =>
    obtain ⟨k, hk, rfl, hown, hb1⟩ := hrel
    have zz1 := hb1.size
    by_cases hlt : k < m
    · rcases HF.out with rfl | ⟨b, off, rfl, hlo, hcell⟩
      · have := HM.out; simp at this; omega
      obtain ⟨x0, x1, c0', c1', hx⟩ := hcell k hlt
      have hcw := Carries.of lo (hW.trans (hb1.mono zW))
      have d0 := hcw _ _ hlo c0'
      have d1 := hcw _ _ hlo c1'
      obtain ⟨q1, q2⟩ := HS.out k hlt
      obtain ⟨t, htk⟩ : ∃ t, t = ts.getD k ([], []) := ⟨_, rfl⟩
      rw [← htk] at q1 q2 hx
      have hfk : f k = hasB t.2 x := by rw [HF0.out]; exact ofP_post htk
      clear htk
      have hle := enTo_length f k
      have hx' := hx.keep hcw
      have hx2 := hx'
      obtain ⟨⟨b0, k0, rfl, _, _⟩, ⟨b1, k1, rfl, _, _⟩⟩ := hx2
      clear hcell c0' c1' hx hcw
      have hwA : Below W.heap.size W (wr.alloc (.cells #[.slice b0 t.1.length k0, .slice b1 t.2.length k1] 64)) := hb1.alloc zz1 _
      have HA := Lib.hid (World.ownsRow.alloc hown.out (.cells #[.slice b0 t.1.length k0, .slice b1 t.2.length k1] 64))
      have HX := Lib.hid (hx'.keep (w' := wr.alloc (.cells #[.slice b0 t.1.length k0, .slice b1 t.2.length k1] 64)) (by (repeat' (first | (with_reducible exact Carries.refl _ _) | (with_reducible assumption) | (with_reducible refine Carries.alloc ?_ _) | (with_reducible refine Carries.drew ?_) | (with_reducible refine Carries.drewN ?_ _) | (with_reducible refine Carries.set ?_ ?_ _) | go_size))))
      clear hown hx'
      go_wp2_with fail
      refine (l1Has_any _ t.2 x _ lo HX.out.2 (by omega)).mono ?_
      rintro e w1 ⟨rfl, hb⟩
      have hw1 : Below W.heap.size W w1 := hwA.trans (hb.mono hwA.size)
      have HA1 := Lib.hid (owns_after HA.out hb)
      clear hb HA HX
      rw [← hfk]
      clear hfk
      have zz2 := hw1.size
      cases hd : f k with
      | false =>
        have he := enTo_false hd
        have HO4 := Lib.hid (show w1.ownsRow W.heap.size 3 1 u7 (enTo f (k + 1)).length (intCells (enTo f (k + 1))) by rw [he]; exact HA1.out)
        clear he hd
        go_wp2_with fail
        go_roundw
        case rel => exact ⟨k + 1, by omega, by go_num, HO4, hw1⟩
        case measure => simp [intOf]; omega
      | true =>
        have he := Lib.hid (enTo_true hd)
        clear hd
        go_wp2_with (refine wpList_append_ints rfl (.tmp 36) (.tmp 38) rfl W.heap.size 0 _ _ _ rfl (World.ownsRow.alloc HA1.out _) _ [(k : Int)] rfl (ints_one _ _ _) (by simp; omega) (by simp; omega) ?_; intro v' w' hown' hgrow)
        have hw4 : Below W.heap.size W w' := (hw1.alloc (by omega) _).grown hgrow (by simp; omega) (fun g hg => (HA1.out.lt g hg).1)
        have HO4 := Lib.hid (show w'.ownsRow W.heap.size 3 1 v' (enTo f (k + 1)).length (intCells (enTo f (k + 1))) by rw [he.out, List.length_append, intCells_append]; exact hown')
        go_wp2_with fail
        go_roundw
        case rel => exact ⟨k + 1, by omega, by go_num, HO4.out, hw4⟩
        case measure => simp [intOf]; omega
    · have hkk : k = m := by omega
      have HO2 : Hid (IntsOw w.heap.size wr u7 L) := by
        have h := ow_of_owns (Go.Joins.ownsRow_le hown.out zW)
        rw [hkk, ← HM.out, ← HL.out] at h
        exact h
      subst hkk
      go_wp2_with fail
      go_ret
      exact ⟨_, rfl, HO2.out, hW.trans (hb1.mono zW)⟩

set_option maxRecDepth 100000 in
set_option maxHeartbeats 1000000 in
theorem l3Of_false (v : Value) (s : StgD) (x : Int) (w : World) (lo : Nat) (hv : StgAt lo w v s) (hs : SmallStg s) :
    Calls Try.prog 134 #[v, .int .i64 x, .bool false] w (RetIntsO w (ofL s.net.ts x false)) := by
  obtain ⟨ao, cap, a1, c1, a2, c2, rfl, hn, hsg, hl⟩ := hv.form
  clear hsg hl hv
  obtain ⟨ts, hts⟩ : ∃ ts, ts = s.net.ts := ⟨_, rfl⟩
  obtain ⟨_, _, u, hu, ht⟩ := hn
  have hs := hs.1
  rw [← hts] at hs ht hu ⊢
  obtain ⟨ao', cap', rfl, hc, hz⟩ := ht
  simp only [Value.agg.injEq, Array.mk.injEq, List.cons.injEq, Value.slice.injEq, true_and, and_true] at hu
  obtain ⟨rfl, rfl⟩ := hu
  generalize s.net.places = p
  generalize s.sigs.length = ns
  generalize s.labs.length = nl
  generalize s.start = st
  clear hts
  obtain ⟨f, hf⟩ : ∃ f, f = ofP ts x false := ⟨_, rfl⟩
  obtain ⟨L, hL⟩ : ∃ L, L = enTo f ts.length := ⟨_, rfl⟩
  have e : ofL ts x false = L := by rw [hL, hf]; rfl
  rw [e]; clear e
  have HF0 := Lib.hid hf; clear hf
  have HL := Lib.hid hL; clear hL
  obtain ⟨hn, hsm⟩ := hs
  have HF := Lib.hid hz; clear hz
  have HS := Lib.hid hsm; clear hsm
  generalize hm : ts.length = m at hc HF HS hn ⊢
  have HM := Lib.hid hm; clear hm
  go_enter Try.func134, Try.ntmps134
  go_wp2_with fail
  have hW : Below w.heap.size w (w.alloc (.cells #[.int .i64 p, .slice ao m cap, .slice a1 ns c1, .slice a2 nl c2, .string st] 36)) := by (repeat' (first | (with_reducible exact Below.refl _ _) | (with_reducible assumption) | (with_reducible refine Below.alloc ?_ ?_ _) | (with_reducible refine Below.drew ?_) | (with_reducible refine below_drewN ?_ _) | (with_reducible refine Below.setCell ?_ ?_ _) | go_size))
  generalize w.alloc (.cells #[.int .i64 p, .slice ao m cap, .slice a1 ns c1, .slice a2 nl c2, .string st] 36) = W at hW ⊢
  have zW := hW.size
  go_loopw [7, 14] (fun l i wr => ∃ k : Nat, k ≤ m ∧ i = .int .i64 k ∧ Hid (wr.ownsRow W.heap.size 3 1 l (enTo f k).length (intCells (enTo f k))) ∧ Below W.heap.size W wr) (fun _ i _ => m - (intOf i).toNat)
  case atStart => exact ⟨0, Nat.zero_le _, rfl, World.ownsRow_nil _ _ _ _, Below.refl _ _⟩
  case round =>
    obtain ⟨k, hk, rfl, hown, hb1⟩ := hrel
    have zz1 := hb1.size
    by_cases hlt : k < m
    · rcases HF.out with rfl | ⟨b, off, rfl, hlo, hcell⟩
      · have := HM.out; simp at this; omega
      obtain ⟨x0, x1, c0', c1', hx⟩ := hcell k hlt
      have hcw := Carries.of lo (hW.trans (hb1.mono zW))
      have d0 := hcw _ _ hlo c0'
      have d1 := hcw _ _ hlo c1'
      obtain ⟨q1, q2⟩ := HS.out k hlt
      obtain ⟨t, htk⟩ : ∃ t, t = ts.getD k ([], []) := ⟨_, rfl⟩
      rw [← htk] at q1 q2 hx
      have hfk : f k = hasB t.1 x := by rw [HF0.out]; exact ofP_pre htk
      clear htk
      have hle := enTo_length f k
      have hx' := hx.keep hcw
      have hx2 := hx'
      obtain ⟨⟨b0, k0, rfl, _, _⟩, ⟨b1, k1, rfl, _, _⟩⟩ := hx2
      clear hcell c0' c1' hx hcw
      have hwA : Below W.heap.size W (wr.alloc (.cells #[.slice b0 t.1.length k0, .slice b1 t.2.length k1] 64)) := hb1.alloc zz1 _
      have HA := Lib.hid (World.ownsRow.alloc hown.out (.cells #[.slice b0 t.1.length k0, .slice b1 t.2.length k1] 64))
      have HX := Lib.hid (hx'.keep (w' := wr.alloc (.cells #[.slice b0 t.1.length k0, .slice b1 t.2.length k1] 64)) (by (repeat' (first | (with_reducible exact Carries.refl _ _) | (with_reducible assumption) | (with_reducible refine Carries.alloc ?_ _) | (with_reducible refine Carries.drew ?_) | (with_reducible refine Carries.drewN ?_ _) | (with_reducible refine Carries.set ?_ ?_ _) | go_size))))
      clear hown hx'
      go_wp2_with fail
      refine (l1Has_any _ t.1 x _ lo HX.out.1 (by omega)).mono ?_
      rintro e w1 ⟨rfl, hb⟩
      have hw1 : Below W.heap.size W w1 := hwA.trans (hb.mono hwA.size)
      have HA1 := Lib.hid (owns_after HA.out hb)
      clear hb HA HX
      rw [← hfk]
      clear hfk
      have zz2 := hw1.size
      cases hd : f k with
      | false =>
        have he := enTo_false hd
        have HO4 := Lib.hid (show w1.ownsRow W.heap.size 3 1 u7 (enTo f (k + 1)).length (intCells (enTo f (k + 1))) by rw [he]; exact HA1.out)
        clear he hd
        go_wp2_with fail
        go_roundw
        case rel => exact ⟨k + 1, by omega, by go_num, HO4, hw1⟩
        case measure => simp [intOf]; omega
      | true =>
        have he := Lib.hid (enTo_true hd)
        clear hd
        go_wp2_with (refine wpList_append_ints rfl (.tmp 36) (.tmp 38) rfl W.heap.size 0 _ _ _ rfl (World.ownsRow.alloc HA1.out _) _ [(k : Int)] rfl (ints_one _ _ _) (by simp; omega) (by simp; omega) ?_; intro v' w' hown' hgrow)
        have hw4 : Below W.heap.size W w' := (hw1.alloc (by omega) _).grown hgrow (by simp; omega) (fun g hg => (HA1.out.lt g hg).1)
        have HO4 := Lib.hid (show w'.ownsRow W.heap.size 3 1 v' (enTo f (k + 1)).length (intCells (enTo f (k + 1))) by rw [he.out, List.length_append, intCells_append]; exact hown')
        go_wp2_with fail
        go_roundw
        case rel => exact ⟨k + 1, by omega, by go_num, HO4.out, hw4⟩
        case measure => simp [intOf]; omega
    · have hkk : k = m := by omega
      have HO2 : Hid (IntsOw w.heap.size wr u7 L) := by
        have h := ow_of_owns (Go.Joins.ownsRow_le hown.out zW)
        rw [hkk, ← HM.out, ← HL.out] at h
        exact h
      subst hkk
      go_wp2_with fail
      go_ret
      exact ⟨_, rfl, HO2.out, hW.trans (hb1.mono zW)⟩

set_option maxRecDepth 100000 in
set_option maxHeartbeats 1000000 in
theorem isUnused_any (p : Int) (v : Value) (ts : List Tr) (x : Int) (w : World) (lo : Nat) (hv : TrsAt lo w v ts) (hs : SmallTrs ts) :
    Calls Try.prog 82 #[.agg #[.int .i64 p, v], .int .i64 x] w (RetB w (unusedB ts x)) := by
  have hv2 := hv
  obtain ⟨ao, cap, rfl, _, _⟩ := hv2
  have HV := Lib.hid hv; clear hv
  have HS := Lib.hid hs; clear hs
  obtain ⟨m, hm⟩ : ∃ m, m = ts.length := ⟨_, rfl⟩
  rw [← hm] at HV ⊢
  clear hm
  generalize hG : unusedB ts x = g
  unfold unusedB at hG
  generalize hL1 : (ofL ts x true).length = l1 at hG
  generalize hL2 : (ofL ts x false).length = l2 at hG
  have HL1 := Lib.hid hL1; clear hL1
  have HL2 := Lib.hid hL2; clear hL2
  have HG := Lib.hid hG; clear hG
  go_enter Try.func82, Try.ntmps82
  go_wp2_with fail
  refine (producers_any _ _ ts x _ lo (HV.out.keep ?_) HS.out).mono ?_
  · (repeat' (first | (with_reducible exact Carries.refl _ _) | (with_reducible assumption) | (with_reducible refine Carries.alloc ?_ _) | (with_reducible refine Carries.drew ?_) | (with_reducible refine Carries.drewN ?_ _) | (with_reducible refine Carries.set ?_ ?_ _) | go_size))
  rintro e w1 ⟨r, rfl, hi, hb⟩
  obtain ⟨b0, k0, rfl, _, _⟩ := hi
  rw [HL1.out]
  have hw1 : Below w.heap.size w w1 := by
    refine Below.trans ?_ (hb.mono ?_)
    · (repeat' (first | (with_reducible exact Below.refl _ _) | (with_reducible assumption) | (with_reducible refine Below.alloc ?_ ?_ _) | (with_reducible refine Below.drew ?_) | (with_reducible refine below_drewN ?_ _) | (with_reducible refine Below.setCell ?_ ?_ _) | go_size))
    · simp
  have x0 : w1.cell? ⟨w.heap.size, 0, none⟩ = some (.int .i64 p) := cell_carry (by simp) (Carries.of 0 hb)
  have x1 : w1.cell? ⟨w.heap.size, 1, none⟩ = some (.slice ao m cap) := cell_carry (by simp) (Carries.of 0 hb)
  clear hb
  by_cases h1 : l1 = 0
  case neg =>
    have e := HG.out
    rw [decide_eq_false h1, Bool.false_and] at e
    subst e
    have t1 : ((l1 : Int) == 0) = false := by rw [beq_eq_false_iff_ne]; omega
    clear h1
    go_wp2_with fail
    go_ret
    exact ⟨rfl, hw1⟩
  have e := HG.out
  rw [decide_eq_true h1, Bool.true_and] at e
  have HE := Lib.hid e
  have t1 : ((l1 : Int) == 0) = true := by rw [beq_iff_eq]; omega
  clear e h1
  go_wp2_with fail
  refine (consumers_any _ _ ts x _ lo (HV.out.keep (Carries.of lo hw1)) HS.out).mono ?_
  rintro e w2 ⟨r2, rfl, hi2, hb2⟩
  obtain ⟨b2, k2, rfl, _, _⟩ := hi2
  rw [HL2.out]
  have hw2 : Below w.heap.size w w2 := hw1.trans (hb2.mono hw1.size)
  clear hb2 t1
  by_cases h2 : l2 = 0
  · have e := HE.out
    rw [decide_eq_true h2] at e
    subst e
    have t2 : ((l2 : Int) == 0) = true := by rw [beq_iff_eq]; omega
    clear h2
    go_wp2_with fail
    go_ret
    exact ⟨rfl, hw2⟩
  · have e := HE.out
    rw [decide_eq_false h2] at e
    subst e
    have t2 : ((l2 : Int) == 0) = false := by rw [beq_eq_false_iff_ne]; omega
    clear h2
    go_wp2_with fail
    go_ret
    exact ⟨rfl, hw2⟩

set_option maxRecDepth 100000 in
set_option maxHeartbeats 1000000 in
theorem l3Unused_any (v : Value) (s : StgD) (x : Int) (w : World) (lo : Nat) (hv : StgAt lo w v s) (hs : SmallStg s) :
    Calls Try.prog 81 #[v, .int .i64 x] w (RetB w (unusedB s.net.ts x)) := by
  obtain ⟨ao, cap, a1, c1, a2, c2, rfl, hn, hsg, hl⟩ := hv.form
  clear hsg hl hn
  have HV := Lib.hid hv; clear hv
  have HS := Lib.hid hs; clear hs
  obtain ⟨p, hp⟩ : ∃ p, p = s.net.places := ⟨_, rfl⟩
  obtain ⟨m, hm⟩ : ∃ m, m = s.net.ts.length := ⟨_, rfl⟩
  obtain ⟨ns, hns⟩ : ∃ ns, ns = s.sigs.length := ⟨_, rfl⟩
  obtain ⟨nl, hnl⟩ : ∃ nl, nl = s.labs.length := ⟨_, rfl⟩
  obtain ⟨st, hst⟩ : ∃ st, st = s.start := ⟨_, rfl⟩
  rw [← hp, ← hm, ← hns, ← hnl, ← hst] at HV ⊢
  clear hp hm hns hnl hst
  generalize hG : unusedB s.net.ts x = g
  unfold unusedB at hG
  generalize hL1 : (ofL s.net.ts x true).length = l1 at hG
  generalize hL2 : (ofL s.net.ts x false).length = l2 at hG
  have HL1 := Lib.hid hL1; clear hL1
  have HL2 := Lib.hid hL2; clear hL2
  have HG := Lib.hid hG; clear hG
  go_enter Try.func81, Try.ntmps81
  go_wp2_with fail
  refine (l3Of_true _ s x _ lo (HV.out.keep ?_) HS.out).mono ?_
  · (repeat' (first | (with_reducible exact Carries.refl _ _) | (with_reducible assumption) | (with_reducible refine Carries.alloc ?_ _) | (with_reducible refine Carries.drew ?_) | (with_reducible refine Carries.drewN ?_ _) | (with_reducible refine Carries.set ?_ ?_ _) | go_size))
  rintro e w1 ⟨r, rfl, hi, hb⟩
  obtain ⟨b0, k0, rfl, _, _⟩ := hi
  rw [HL1.out]
  have hw1 : Below w.heap.size w w1 := by
    refine Below.trans ?_ (hb.mono ?_)
    · (repeat' (first | (with_reducible exact Below.refl _ _) | (with_reducible assumption) | (with_reducible refine Below.alloc ?_ ?_ _) | (with_reducible refine Below.drew ?_) | (with_reducible refine below_drewN ?_ _) | (with_reducible refine Below.setCell ?_ ?_ _) | go_size))
    · simp
  have x0 : w1.cell? ⟨w.heap.size, 0, none⟩ = some (.int .i64 p) := cell_carry (by simp) (Carries.of 0 hb)
  have x1 : w1.cell? ⟨w.heap.size, 1, none⟩ = some (.slice ao m cap) := cell_carry (by simp) (Carries.of 0 hb)
  have x2 : w1.cell? ⟨w.heap.size, 2, none⟩ = some (.slice a1 ns c1) := cell_carry (by simp) (Carries.of 0 hb)
  have x3 : w1.cell? ⟨w.heap.size, 3, none⟩ = some (.slice a2 nl c2) := cell_carry (by simp) (Carries.of 0 hb)
  have x4 : w1.cell? ⟨w.heap.size, 4, none⟩ = some (.string st) := cell_carry (by simp) (Carries.of 0 hb)
  clear hb
  by_cases h1 : l1 = 0
  case neg =>
    have e := HG.out
    rw [decide_eq_false h1, Bool.false_and] at e
    subst e
    have t1 : ((l1 : Int) == 0) = false := by rw [beq_eq_false_iff_ne]; omega
    clear h1
    go_wp2_with fail
    go_ret
    exact ⟨rfl, hw1⟩
  have e := HG.out
  rw [decide_eq_true h1, Bool.true_and] at e
  have HE := Lib.hid e
  have t1 : ((l1 : Int) == 0) = true := by rw [beq_iff_eq]; omega
  clear e h1
  go_wp2_with fail
  refine (l3Of_false _ s x _ lo (HV.out.keep (Carries.of lo hw1)) HS.out).mono ?_
  rintro e w2 ⟨r2, rfl, hi2, hb2⟩
  obtain ⟨b2, k2, rfl, _, _⟩ := hi2
  rw [HL2.out]
  have hw2 : Below w.heap.size w w2 := hw1.trans (hb2.mono hw1.size)
  clear hb2 t1
  by_cases h2 : l2 = 0
  · have e := HE.out
    rw [decide_eq_true h2] at e
    subst e
    have t2 : ((l2 : Int) == 0) = true := by rw [beq_iff_eq]; omega
    clear h2
    go_wp2_with fail
    go_ret
    exact ⟨rfl, hw2⟩
  · have e := HE.out
    rw [decide_eq_false h2] at e
    subst e
    have t2 : ((l2 : Int) == 0) = false := by rw [beq_eq_false_iff_ne]; omega
    clear h2
    go_wp2_with fail
    go_ret
    exact ⟨rfl, hw2⟩

end Go.Proofs.Ytkkfglolameogaa
