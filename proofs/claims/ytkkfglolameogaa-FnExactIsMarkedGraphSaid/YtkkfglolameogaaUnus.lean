/-
  WALKS: UnusedPlaces and IsMarkedGraph of the program and of the model.
-/
import Derived.Test.YtkkfglolameogaaProdb
import Derived.Test.YtkkfglolameogaaRetov
namespace Go.Proofs.Ytkkfglolameogaa
open Go.RowKit

theorem NetAt.trs {lo : Nat} {w : World} {p : Int} {u : Value} {n : NetD} (h : NetAt lo w (.agg #[.int .i64 p, u]) n) : TrsAt lo w u n.ts := by
  obtain ⟨_, _, u', hu, ht⟩ := h
  simp only [Value.agg.injEq, Array.mk.injEq, List.cons.injEq, and_true] at hu
  obtain ⟨_, rfl⟩ := hu
  exact ht
theorem goodS_places {s : StgD} (h : goodS s = true) : 1 ≤ s.net.places ∧ s.net.places ≤ 30 := by
  unfold goodS goodN at h
  simp only [Bool.and_eq_true, decide_eq_true_eq] at h
  exact h.1.1.1.1

def unF (ts : List Tr) (i : Nat) : Bool := unusedB ts (i : Int)
def unL (s : StgD) : List Int := if goodS s = true then enTo (unF s.net.ts) s.net.places.toNat else []
theorem unL_no {s : StgD} (h : goodS s = false) : unL s = [] := by unfold unL; rw [h]; rfl
theorem unL_yes {s : StgD} (h : goodS s = true) : unL s = enTo (unF s.net.ts) s.net.places.toNat := by unfold unL; rw [h]; rfl
theorem unL_small {s : StgD} : (unL s).length ≤ 1048576 := by
  by_cases h : goodS s = true
  · rw [unL_yes h]
    have h2 := enTo_length (unF s.net.ts) s.net.places.toNat
    have h3 := goodS_places h
    omega
  · rw [unL_no (by simpa using h)]; exact Nat.zero_le _

/-- place p has one producer and one consumer -/
def oneB (ts : List Tr) (i : Nat) : Bool := decide ((ofL ts (i : Int) true).length = 1) && decide ((ofL ts (i : Int) false).length = 1)
def markedB (ts : List Tr) (n : Nat) : Bool := (List.range n).all (oneB ts)
theorem markedB_true {ts : List Tr} {n : Nat} (h : ∀ i, i < n → oneB ts i = true) : markedB ts n = true := by
  unfold markedB; rw [List.all_eq_true]; intro i hi; exact h i (by simpa using hi)
theorem markedB_false {ts : List Tr} {n k : Nat} (hk : k < n) (h : oneB ts k = false) : markedB ts n = false := by
  unfold markedB; rw [List.all_eq_false]; exact ⟨k, by simpa using hk, by simp [h]⟩

set_option maxRecDepth 100000 in
set_option maxHeartbeats 2000000 in
theorem UnusedPlaces_any (v : Value) (s : StgD) (w : World) (lo : Nat) (hv : StgAt lo w v s) (hs : SmallStg s) :
    Calls Try.prog 23 #[v] w (RetOv w (unL s) (goodS s)) := by
  obtain ⟨ao, cap, a1, c1, a2, c2, rfl, hn, hsg, hl⟩ := hv.form
  have ht := hn.trs
  clear hsg hl hn
  have HV := Lib.hid hv; clear hv
  have HT := Lib.hid ht; clear ht
  have HS := Lib.hid hs; clear hs
  obtain ⟨ts, hts⟩ : ∃ ts, ts = s.net.ts := ⟨_, rfl⟩
  obtain ⟨p, hp⟩ : ∃ p, p = s.net.places := ⟨_, rfl⟩
  obtain ⟨m, hm⟩ : ∃ m, m = s.net.ts.length := ⟨_, rfl⟩
  obtain ⟨ns, hns⟩ : ∃ ns, ns = s.sigs.length := ⟨_, rfl⟩
  obtain ⟨nl, hnl⟩ : ∃ nl, nl = s.labs.length := ⟨_, rfl⟩
  obtain ⟨st, hst⟩ : ∃ st, st = s.start := ⟨_, rfl⟩
  rw [← hp, ← hm, ← hns, ← hnl, ← hst] at HV ⊢
  rw [← hm, ← hts] at HT
  have HP := Lib.hid (And.intro hp hts)
  clear hp hm hns hnl hst hts
  obtain ⟨B, hB⟩ : ∃ B, B = goodS s := ⟨_, rfl⟩
  obtain ⟨L, hL⟩ : ∃ L, L = unL s := ⟨_, rfl⟩
  rw [← hB, ← hL]
  have HB := Lib.hid hB; clear hB
  have HL := Lib.hid hL; clear hL
  go_enter Try.func23, Try.ntmps23
  go_wp2_with fail
  refine (IsValidSTG_any _ s _ lo (HV.out.keep ?_) HS.out).mono ?_
  · (repeat' (first | (with_reducible exact Carries.refl _ _) | (with_reducible assumption) | (with_reducible refine Carries.alloc ?_ _) | (with_reducible refine Carries.drew ?_) | (with_reducible refine Carries.drewN ?_ _) | (with_reducible refine Carries.set ?_ ?_ _) | go_size))
  rintro e w1 ⟨rfl, hb⟩
  have hw1 : Below w.heap.size w w1 := by
    refine Below.trans ?_ (hb.mono ?_)
    · (repeat' (first | (with_reducible exact Below.refl _ _) | (with_reducible assumption) | (with_reducible refine Below.alloc ?_ ?_ _) | (with_reducible refine Below.drew ?_) | (with_reducible refine below_drewN ?_ _) | (with_reducible refine Below.setCell ?_ ?_ _) | go_size))
    · simp
  have x0 : w1.cell? ⟨w.heap.size, 0, none⟩ = some (.int .i64 p) := cell_carry (by simp) (Carries.of 0 hb)
  have x1 : w1.cell? ⟨w.heap.size, 1, none⟩ = some (.slice ao m cap) := cell_carry (by simp) (Carries.of 0 hb)
  have z1 : w.heap.size < w1.heap.size := by have := hb.size; simp at this; omega
  clear hb
  cases hg : goodS s with
  | false =>
    have e1 := HB.out
    rw [hg] at e1
    have e2 := HL.out
    rw [unL_no hg] at e2
    subst e1; subst e2
    clear hg
    go_wp2_with fail
    go_ret2
    exact ⟨_, rfl, ow_nil _ _, hw1⟩
  | true =>
  have e1 := HB.out
  rw [hg] at e1
  subst e1
  have e2 := HL.out
  rw [unL_yes hg, ← HP.out.1, ← HP.out.2] at e2
  have hpb := goodS_places hg
  rw [← HP.out.1] at hpb
  obtain ⟨n, rfl⟩ : ∃ n : Nat, p = n := ⟨p.toNat, by omega⟩
  rw [Int.toNat_natCast] at e2
  obtain ⟨f, hf⟩ : ∃ f, f = unF ts := ⟨_, rfl⟩
  rw [← hf] at e2
  have HL2 := Lib.hid e2
  have HF0 := Lib.hid hf
  clear hg e2 hf
  go_wp2_with fail
  have X0 := Lib.hid x0; clear x0
  have X1 := Lib.hid x1; clear x1
  go_loopw [4, 12] (fun l i wr => ∃ k : Nat, k ≤ n ∧ i = .int .i64 k ∧ Hid (wr.ownsRow w1.heap.size 3 1 l (enTo f k).length (intCells (enTo f k))) ∧ Below w1.heap.size w1 wr) (fun _ i _ => n - (intOf i).toNat)
  case atStart => exact ⟨0, Nat.zero_le _, rfl, World.ownsRow_nil _ _ _ _, Below.refl _ _⟩
  case round =>
    obtain ⟨k, hk, rfl, hown, hb1⟩ := hrel
    have zz1 := hb1.size
    have x0 := cell_keep X0.out hb1 (Nat.le_refl _)
    have x1 := cell_keep X1.out hb1 (Nat.le_refl _)
    have hwr := hw1.trans (hb1.mono (Nat.le_of_lt z1))
    by_cases hlt : k < n
    · have hle := enTo_length f k
      have hfk : unusedB ts (k : Int) = f k := by rw [HF0.out]; rfl
      go_wp2_with fail
      refine (isUnused_any _ _ ts (k : Int) _ lo (HT.out.keep (Carries.of lo hwr)) (by rw [HP.out.2]; exact HS.out.1)).mono ?_
      rintro e w2 ⟨rfl, hb⟩
      have hw2 : Below w1.heap.size w1 w2 := hb1.trans (hb.mono hb1.size)
      have HA1 := Lib.hid (owns_after hown.out hb)
      clear hb hown
      have zz2 := hw2.size
      try skip
      rw [hfk]
      clear hfk
      cases hd : f k with
      | false =>
        have he := enTo_false hd
        have HO4 := Lib.hid (show w2.ownsRow w1.heap.size 3 1 u4 (enTo f (k + 1)).length (intCells (enTo f (k + 1))) by rw [he]; exact HA1.out)
        clear he hd
        go_wp2_with fail
        go_roundw
        case rel => exact ⟨k + 1, by omega, by go_num, HO4, hw2⟩
        case measure => simp [intOf]; omega
      | true =>
        have he := Lib.hid (enTo_true hd)
        clear hd
        go_wp2_with (refine wpList_append_ints rfl (.tmp 19) (.tmp 21) rfl w1.heap.size 0 _ _ _ rfl (World.ownsRow.alloc HA1.out _) _ [(k : Int)] rfl (ints_one _ _ _) (by simp; omega) (by simp; omega) ?_; intro v' w' hown' hgrow)
        have hw4 : Below w1.heap.size w1 w' := (hw2.alloc (by omega) _).grown hgrow (by simp; omega) (fun g hg => (HA1.out.lt g hg).1)
        have HO4 := Lib.hid (show w'.ownsRow w1.heap.size 3 1 v' (enTo f (k + 1)).length (intCells (enTo f (k + 1))) by rw [he.out, List.length_append, intCells_append]; exact hown')
        go_wp2_with fail
        go_roundw
        case rel => exact ⟨k + 1, by omega, by go_num, HO4.out, hw4⟩
        case measure => simp [intOf]; omega
    · have hkk : k = n := by omega
      have HO2 : Hid (IntsOw w.heap.size wr u4 L) := by
        have h := ow_of_owns (Go.Joins.ownsRow_le hown.out (Nat.le_of_lt z1))
        rw [hkk, ← HL2.out] at h
        exact h
      subst hkk
      go_wp2_with fail
      go_ret2
      exact ⟨_, rfl, HO2.out, hwr⟩

set_option maxRecDepth 100000 in
set_option maxHeartbeats 2000000 in
theorem specUnusedPlaces_any (v : Value) (s : StgD) (w : World) (lo : Nat) (hv : StgAt lo w v s) (hs : SmallStg s) :
    Calls Try.prog 22 #[v] w (RetOv w (unL s) (goodS s)) := by
  obtain ⟨ao, cap, a1, c1, a2, c2, rfl, hn, hsg, hl⟩ := hv.form
  have ht := hn.trs
  clear hsg hl hn
  have HV := Lib.hid hv; clear hv
  have HT := Lib.hid ht; clear ht
  have HS := Lib.hid hs; clear hs
  obtain ⟨ts, hts⟩ : ∃ ts, ts = s.net.ts := ⟨_, rfl⟩
  obtain ⟨p, hp⟩ : ∃ p, p = s.net.places := ⟨_, rfl⟩
  obtain ⟨m, hm⟩ : ∃ m, m = s.net.ts.length := ⟨_, rfl⟩
  obtain ⟨ns, hns⟩ : ∃ ns, ns = s.sigs.length := ⟨_, rfl⟩
  obtain ⟨nl, hnl⟩ : ∃ nl, nl = s.labs.length := ⟨_, rfl⟩
  obtain ⟨st, hst⟩ : ∃ st, st = s.start := ⟨_, rfl⟩
  rw [← hp, ← hm, ← hns, ← hnl, ← hst] at HV ⊢
  rw [← hm, ← hts] at HT
  have HP := Lib.hid (And.intro hp hts)
  clear hp hm hns hnl hst hts
  obtain ⟨B, hB⟩ : ∃ B, B = goodS s := ⟨_, rfl⟩
  obtain ⟨L, hL⟩ : ∃ L, L = unL s := ⟨_, rfl⟩
  rw [← hB, ← hL]
  have HB := Lib.hid hB; clear hB
  have HL := Lib.hid hL; clear hL
  go_enter Try.func22, Try.ntmps22
  go_wp2_with fail
  refine (l2Good_any _ s _ lo (HV.out.keep ?_) HS.out).mono ?_
  · (repeat' (first | (with_reducible exact Carries.refl _ _) | (with_reducible assumption) | (with_reducible refine Carries.alloc ?_ _) | (with_reducible refine Carries.drew ?_) | (with_reducible refine Carries.drewN ?_ _) | (with_reducible refine Carries.set ?_ ?_ _) | go_size))
  rintro e w1 ⟨rfl, hb⟩
  have hw1 : Below w.heap.size w w1 := by
    refine Below.trans ?_ (hb.mono ?_)
    · (repeat' (first | (with_reducible exact Below.refl _ _) | (with_reducible assumption) | (with_reducible refine Below.alloc ?_ ?_ _) | (with_reducible refine Below.drew ?_) | (with_reducible refine below_drewN ?_ _) | (with_reducible refine Below.setCell ?_ ?_ _) | go_size))
    · simp
  have x0 : w1.cell? ⟨w.heap.size, 0, none⟩ = some (.int .i64 p) := cell_carry (by simp) (Carries.of 0 hb)
  have x1 : w1.cell? ⟨w.heap.size, 1, none⟩ = some (.slice ao m cap) := cell_carry (by simp) (Carries.of 0 hb)
  have x2 : w1.cell? ⟨w.heap.size, 2, none⟩ = some (.slice a1 ns c1) := cell_carry (by simp) (Carries.of 0 hb)
  have x3 : w1.cell? ⟨w.heap.size, 3, none⟩ = some (.slice a2 nl c2) := cell_carry (by simp) (Carries.of 0 hb)
  have x4 : w1.cell? ⟨w.heap.size, 4, none⟩ = some (.string st) := cell_carry (by simp) (Carries.of 0 hb)
  have z1 : w.heap.size < w1.heap.size := by have := hb.size; simp at this; omega
  clear hb
  cases hg : goodS s with
  | false =>
    have e1 := HB.out
    rw [hg] at e1
    have e2 := HL.out
    rw [unL_no hg] at e2
    subst e1; subst e2
    clear hg
    go_wp2_with fail
    go_ret2
    exact ⟨_, rfl, ow_nil _ _, hw1⟩
  | true =>
  have e1 := HB.out
  rw [hg] at e1
  subst e1
  have e2 := HL.out
  rw [unL_yes hg, ← HP.out.1, ← HP.out.2] at e2
  have hpb := goodS_places hg
  rw [← HP.out.1] at hpb
  obtain ⟨n, rfl⟩ : ∃ n : Nat, p = n := ⟨p.toNat, by omega⟩
  rw [Int.toNat_natCast] at e2
  obtain ⟨f, hf⟩ : ∃ f, f = unF ts := ⟨_, rfl⟩
  rw [← hf] at e2
  have HL2 := Lib.hid e2
  have HF0 := Lib.hid hf
  clear hg e2 hf
  go_wp2_with fail
  have X0 := Lib.hid x0; clear x0
  have X1 := Lib.hid x1; clear x1
  have X2 := Lib.hid x2; clear x2
  have X3 := Lib.hid x3; clear x3
  have X4 := Lib.hid x4; clear x4
  go_loopw [4, 5] (fun l i wr => ∃ k : Nat, k ≤ n ∧ i = .int .i64 k ∧ Hid (wr.ownsRow w1.heap.size 3 1 l (enTo f k).length (intCells (enTo f k))) ∧ Below w1.heap.size w1 wr) (fun _ i _ => n - (intOf i).toNat)
  case atStart => exact ⟨0, Nat.zero_le _, rfl, World.ownsRow_nil _ _ _ _, Below.refl _ _⟩
  case round =>
    obtain ⟨k, hk, rfl, hown, hb1⟩ := hrel
    have zz1 := hb1.size
    have x0 := cell_keep X0.out hb1 (Nat.le_refl _)
    have x1 := cell_keep X1.out hb1 (Nat.le_refl _)
    have x2 := cell_keep X2.out hb1 (Nat.le_refl _)
    have x3 := cell_keep X3.out hb1 (Nat.le_refl _)
    have x4 := cell_keep X4.out hb1 (Nat.le_refl _)
    have hwr := hw1.trans (hb1.mono (Nat.le_of_lt z1))
    by_cases hlt : k < n
    · have hle := enTo_length f k
      have hfk : unusedB ts (k : Int) = f k := by rw [HF0.out]; rfl
      go_wp2_with fail
      refine (l3Unused_any _ s (k : Int) _ lo (HV.out.keep (Carries.of lo hwr)) HS.out).mono ?_
      rintro e w2 ⟨rfl, hb⟩
      have hw2 : Below w1.heap.size w1 w2 := hb1.trans (hb.mono hb1.size)
      have HA1 := Lib.hid (owns_after hown.out hb)
      clear hb hown
      have zz2 := hw2.size
      rw [← HP.out.2]
      rw [hfk]
      clear hfk
      cases hd : f k with
      | false =>
        have he := enTo_false hd
        have HO4 := Lib.hid (show w2.ownsRow w1.heap.size 3 1 u4 (enTo f (k + 1)).length (intCells (enTo f (k + 1))) by rw [he]; exact HA1.out)
        clear he hd
        go_wp2_with fail
        go_roundw
        case rel => exact ⟨k + 1, by omega, by go_num, HO4, hw2⟩
        case measure => simp [intOf]; omega
      | true =>
        have he := Lib.hid (enTo_true hd)
        clear hd
        go_wp2_with (refine wpList_append_ints rfl (.tmp 19) (.tmp 21) rfl w1.heap.size 0 _ _ _ rfl (World.ownsRow.alloc HA1.out _) _ [(k : Int)] rfl (ints_one _ _ _) (by simp; omega) (by simp; omega) ?_; intro v' w' hown' hgrow)
        have hw4 : Below w1.heap.size w1 w' := (hw2.alloc (by omega) _).grown hgrow (by simp; omega) (fun g hg => (HA1.out.lt g hg).1)
        have HO4 := Lib.hid (show w'.ownsRow w1.heap.size 3 1 v' (enTo f (k + 1)).length (intCells (enTo f (k + 1))) by rw [he.out, List.length_append, intCells_append]; exact hown')
        go_wp2_with fail
        go_roundw
        case rel => exact ⟨k + 1, by omega, by go_num, HO4.out, hw4⟩
        case measure => simp [intOf]; omega
    · have hkk : k = n := by omega
      have HO2 : Hid (IntsOw w.heap.size wr u4 L) := by
        have h := ow_of_owns (Go.Joins.ownsRow_le hown.out (Nat.le_of_lt z1))
        rw [hkk, ← HL2.out] at h
        exact h
      subst hkk
      go_wp2_with fail
      go_ret2
      exact ⟨_, rfl, HO2.out, hwr⟩

set_option maxRecDepth 100000 in
set_option maxHeartbeats 2000000 in
theorem IsMarkedGraph_any (v : Value) (s : StgD) (w : World) (lo : Nat) (hv : StgAt lo w v s) (hs : SmallStg s) :
    Calls Try.prog 30 #[v] w (RetV w (.tuple #[.bool (goodS s && markedB s.net.ts s.net.places.toNat), .bool (goodS s)])) := by
  obtain ⟨B, hB⟩ : ∃ B, B = goodS s := ⟨_, rfl⟩
  obtain ⟨R, hR⟩ : ∃ R, R = (goodS s && markedB s.net.ts s.net.places.toNat) := ⟨_, rfl⟩
  rw [← hR, ← hB]
  have HB := Lib.hid hB; clear hB
  have HR := Lib.hid hR; clear hR
  obtain ⟨ao, cap, a1, c1, a2, c2, rfl, hn, hsg, hl⟩ := hv.form
  have ht := hn.trs
  clear hsg hl hn
  have HV := Lib.hid hv; clear hv
  have HT := Lib.hid ht; clear ht
  have HS := Lib.hid hs; clear hs
  obtain ⟨ts, hts⟩ : ∃ ts, ts = s.net.ts := ⟨_, rfl⟩
  obtain ⟨p, hp⟩ : ∃ p, p = s.net.places := ⟨_, rfl⟩
  obtain ⟨m, hm⟩ : ∃ m, m = s.net.ts.length := ⟨_, rfl⟩
  obtain ⟨ns, hns⟩ : ∃ ns, ns = s.sigs.length := ⟨_, rfl⟩
  obtain ⟨nl, hnl⟩ : ∃ nl, nl = s.labs.length := ⟨_, rfl⟩
  obtain ⟨st, hst⟩ : ∃ st, st = s.start := ⟨_, rfl⟩
  rw [← hp, ← hm, ← hns, ← hnl, ← hst] at HV ⊢
  rw [← hm, ← hts] at HT
  have HP := Lib.hid (And.intro hp hts)
  clear hp hm hns hnl hst hts
  go_enter Try.func30, Try.ntmps30
  go_wp2_with fail
  refine (IsValidSTG_any _ s _ lo (HV.out.keep ?_) HS.out).mono ?_
  · (repeat' (first | (with_reducible exact Carries.refl _ _) | (with_reducible assumption) | (with_reducible refine Carries.alloc ?_ _) | (with_reducible refine Carries.drew ?_) | (with_reducible refine Carries.drewN ?_ _) | (with_reducible refine Carries.set ?_ ?_ _) | go_size))
  rintro e w1 ⟨rfl, hb⟩
  have hw1 : Below w.heap.size w w1 := by
    refine Below.trans ?_ (hb.mono ?_)
    · (repeat' (first | (with_reducible exact Below.refl _ _) | (with_reducible assumption) | (with_reducible refine Below.alloc ?_ ?_ _) | (with_reducible refine Below.drew ?_) | (with_reducible refine below_drewN ?_ _) | (with_reducible refine Below.setCell ?_ ?_ _) | go_size))
    · simp
  have x0 : w1.cell? ⟨w.heap.size, 0, none⟩ = some (.int .i64 p) := cell_carry (by simp) (Carries.of 0 hb)
  have x1 : w1.cell? ⟨w.heap.size, 1, none⟩ = some (.slice ao m cap) := cell_carry (by simp) (Carries.of 0 hb)
  have z1 : w.heap.size < w1.heap.size := by have := hb.size; simp at this; omega
  clear hb
  cases hg : goodS s with
  | false =>
    have e1 := HB.out
    rw [hg] at e1
    have e2 := HR.out
    rw [hg, Bool.false_and] at e2
    subst e1; subst e2
    clear hg
    go_wp2_with fail
    go_ret2
    exact ⟨rfl, hw1⟩
  | true =>
  have e1 := HB.out
  rw [hg] at e1
  subst e1
  have e2 := HR.out
  rw [hg, Bool.true_and, ← HP.out.1, ← HP.out.2] at e2
  have hpb := goodS_places hg
  rw [← HP.out.1] at hpb
  obtain ⟨n, rfl⟩ : ∃ n : Nat, p = n := ⟨p.toNat, by omega⟩
  rw [Int.toNat_natCast] at e2
  clear HR
  have HR := Lib.hid e2
  clear hg e2
  go_wp2_with fail
  have X0 := Lib.hid x0; clear x0
  have X1 := Lib.hid x1; clear x1
  go_loopw [11] (fun i wr => ∃ k : Nat, k ≤ n ∧ i = .int .i64 k ∧ Hid (∀ j, j < k → oneB ts j = true) ∧ Below w1.heap.size w1 wr) (fun i _ => n - (intOf i).toNat)
  case atStart => exact ⟨0, Nat.zero_le _, rfl, fun j hj => absurd hj (Nat.not_lt_zero _), Below.refl _ _⟩
  case round =>
    obtain ⟨k, hk, rfl, hall, hb1⟩ := hrel
    have zz1 := hb1.size
    have x0 := cell_keep X0.out hb1 (Nat.le_refl _)
    have x1 := cell_keep X1.out hb1 (Nat.le_refl _)
    have hwr := hw1.trans (hb1.mono (Nat.le_of_lt z1))
    by_cases hlt : k < n
    · have hon : oneB ts k = (decide ((ofL ts (k : Int) true).length = 1) && decide ((ofL ts (k : Int) false).length = 1)) := rfl
      generalize hL1 : (ofL ts (k : Int) true).length = l1 at hon
      generalize hL2 : (ofL ts (k : Int) false).length = l2 at hon
      have HL1 := Lib.hid hL1; clear hL1
      have HL2 := Lib.hid hL2; clear hL2
      have HON := Lib.hid hon; clear hon
      go_wp2_with fail
      refine (producers_any _ _ ts (k : Int) _ lo (HT.out.keep (Carries.of lo hwr)) (by rw [HP.out.2]; exact HS.out.1)).mono ?_
      rintro e w2 ⟨r, rfl, hi, hb⟩
      obtain ⟨b0, k0, rfl, _, _⟩ := hi
      try skip
      rw [HL1.out]
      have hw2 : Below w1.heap.size w1 w2 := hb1.trans (hb.mono hb1.size)
      have x0 := cell_carry x0 (Carries.of 0 hb)
      have x1 := cell_carry x1 (Carries.of 0 hb)
      have hwr2 := hw1.trans (hw2.mono (Nat.le_of_lt z1))
      clear hb
      by_cases h1 : l1 = 1
      case neg =>
        have e0 := HON.out
        rw [decide_eq_false h1, Bool.false_and] at e0
        have e := HR.out
        rw [markedB_false hlt e0] at e
        subst e
        have t0 : ((l1 : Int) == 1) = false := by rw [beq_eq_false_iff_ne]; omega
        have t1 : ((l1 : Int) != 1) = true := by rw [bne, t0]; rfl
        clear h1 e0
        go_wp2_with fail
        go_ret2
        exact ⟨rfl, hwr2⟩
      have e0 := HON.out
      rw [decide_eq_true h1, Bool.true_and] at e0
      have HE := Lib.hid e0
      have t0 : ((l1 : Int) == 1) = true := by rw [beq_iff_eq]; omega
      have t1 : ((l1 : Int) != 1) = false := by rw [bne, t0]; rfl
      clear e0 h1
      go_wp2_with fail
      refine (consumers_any _ _ ts (k : Int) _ lo (HT.out.keep (Carries.of lo hwr2)) (by rw [HP.out.2]; exact HS.out.1)).mono ?_
      rintro e w3 ⟨r2, rfl, hi2, hb2⟩
      obtain ⟨b2, k2, rfl, _, _⟩ := hi2
      try skip
      rw [HL2.out]
      have hw3 : Below w1.heap.size w1 w3 := hw2.trans (hb2.mono hw2.size)
      have hwr3 := hw1.trans (hw3.mono (Nat.le_of_lt z1))
      clear hb2 t1 t0 x0 x1
      by_cases h2 : l2 = 1
      · have e := HE.out
        rw [decide_eq_true h2] at e
        have H2 : Hid (∀ j, j < k + 1 → oneB ts j = true) := by
          intro j hj
          by_cases ej : j = k
          · subst ej; exact e
          · exact hall.out j (by omega)
        have t2 : ((l2 : Int) == 1) = true := by rw [beq_iff_eq]; omega
        have t3 : ((l2 : Int) != 1) = false := by rw [bne, t2]; rfl
        clear h2 e
        go_wp2_with fail
        go_roundw
        case rel => exact ⟨k + 1, by omega, by go_num, H2, hw3⟩
        case measure => simp [intOf]; omega
      · have e0 := HE.out
        rw [decide_eq_false h2] at e0
        have e := HR.out
        rw [markedB_false hlt e0] at e
        subst e
        have t2 : ((l2 : Int) == 1) = false := by rw [beq_eq_false_iff_ne]; omega
        have t3 : ((l2 : Int) != 1) = true := by rw [bne, t2]; rfl
        clear h2 e0
        go_wp2_with fail
        go_ret2
        exact ⟨rfl, hwr3⟩
    · have hkk : k = n := by omega
      subst hkk
      have e := HR.out
      rw [markedB_true hall.out] at e
      subst e
      go_wp2_with fail
      go_ret2
      exact ⟨rfl, hwr⟩

set_option maxRecDepth 100000 in
set_option maxHeartbeats 2000000 in
theorem l3Marked_any (v : Value) (s : StgD) (w : World) (lo : Nat) (hv : StgAt lo w v s) (hs : SmallStg s) (hpb : 1 ≤ s.net.places ∧ s.net.places ≤ 30) :
    Calls Try.prog 85 #[v] w (RetV w (.bool (markedB s.net.ts s.net.places.toNat))) := by
  obtain ⟨R, hR⟩ : ∃ R, R = markedB s.net.ts s.net.places.toNat := ⟨_, rfl⟩
  rw [← hR]
  obtain ⟨ao, cap, a1, c1, a2, c2, rfl, hn, hsg, hl⟩ := hv.form
  have ht := hn.trs
  clear hsg hl hn
  have HV := Lib.hid hv; clear hv
  have HT := Lib.hid ht; clear ht
  have HS := Lib.hid hs; clear hs
  obtain ⟨ts, hts⟩ : ∃ ts, ts = s.net.ts := ⟨_, rfl⟩
  obtain ⟨p, hp⟩ : ∃ p, p = s.net.places := ⟨_, rfl⟩
  obtain ⟨m, hm⟩ : ∃ m, m = s.net.ts.length := ⟨_, rfl⟩
  obtain ⟨ns, hns⟩ : ∃ ns, ns = s.sigs.length := ⟨_, rfl⟩
  obtain ⟨nl, hnl⟩ : ∃ nl, nl = s.labs.length := ⟨_, rfl⟩
  obtain ⟨st, hst⟩ : ∃ st, st = s.start := ⟨_, rfl⟩
  rw [← hp, ← hm, ← hns, ← hnl, ← hst] at HV ⊢
  rw [← hm, ← hts] at HT
  have HP := Lib.hid (And.intro hp hts)
  clear hp hm hns hnl hst hts
  rw [← HP.out.1, ← HP.out.2] at hR
  rw [← HP.out.1] at hpb
  obtain ⟨n, rfl⟩ : ∃ n : Nat, p = n := ⟨p.toNat, by omega⟩
  rw [Int.toNat_natCast] at hR
  have HR := Lib.hid hR; clear hR
  go_enter Try.func85, Try.ntmps85
  go_wp2_with fail
  have hw1 : Below w.heap.size w (w.alloc (.cells #[.int .i64 n, .slice ao m cap, .slice a1 ns c1, .slice a2 nl c2, .string st] 36)) := by (repeat' (first | (with_reducible exact Below.refl _ _) | (with_reducible assumption) | (with_reducible refine Below.alloc ?_ ?_ _) | (with_reducible refine Below.drew ?_) | (with_reducible refine below_drewN ?_ _) | (with_reducible refine Below.setCell ?_ ?_ _) | go_size))
  have X0 : Hid ((w.alloc (.cells #[.int .i64 n, .slice ao m cap, .slice a1 ns c1, .slice a2 nl c2, .string st] 36)).cell? ⟨w.heap.size, 0, none⟩ = some (.int .i64 n)) := by unfold Hid; simp
  have X1 : Hid ((w.alloc (.cells #[.int .i64 n, .slice ao m cap, .slice a1 ns c1, .slice a2 nl c2, .string st] 36)).cell? ⟨w.heap.size, 1, none⟩ = some (.slice ao m cap)) := by unfold Hid; simp
  have X2 : Hid ((w.alloc (.cells #[.int .i64 n, .slice ao m cap, .slice a1 ns c1, .slice a2 nl c2, .string st] 36)).cell? ⟨w.heap.size, 2, none⟩ = some (.slice a1 ns c1)) := by unfold Hid; simp
  have X3 : Hid ((w.alloc (.cells #[.int .i64 n, .slice ao m cap, .slice a1 ns c1, .slice a2 nl c2, .string st] 36)).cell? ⟨w.heap.size, 3, none⟩ = some (.slice a2 nl c2)) := by unfold Hid; simp
  have X4 : Hid ((w.alloc (.cells #[.int .i64 n, .slice ao m cap, .slice a1 ns c1, .slice a2 nl c2, .string st] 36)).cell? ⟨w.heap.size, 4, none⟩ = some (.string st)) := by unfold Hid; simp
  have z1 : w.heap.size < (w.alloc (.cells #[.int .i64 n, .slice ao m cap, .slice a1 ns c1, .slice a2 nl c2, .string st] 36)).heap.size := by simp
  generalize w.alloc (.cells #[.int .i64 n, .slice ao m cap, .slice a1 ns c1, .slice a2 nl c2, .string st] 36) = w1 at hw1 X0 X1 X2 X3 X4 z1 ⊢
  go_loopw [3] (fun i wr => ∃ k : Nat, k ≤ n ∧ i = .int .i64 k ∧ Hid (∀ j, j < k → oneB ts j = true) ∧ Below w1.heap.size w1 wr) (fun i _ => n - (intOf i).toNat)
  case atStart => exact ⟨0, Nat.zero_le _, rfl, fun j hj => absurd hj (Nat.not_lt_zero _), Below.refl _ _⟩
  case round =>
    obtain ⟨k, hk, rfl, hall, hb1⟩ := hrel
    have zz1 := hb1.size
    have x0 := cell_keep X0.out hb1 (Nat.le_refl _)
    have x1 := cell_keep X1.out hb1 (Nat.le_refl _)
    have x2 := cell_keep X2.out hb1 (Nat.le_refl _)
    have x3 := cell_keep X3.out hb1 (Nat.le_refl _)
    have x4 := cell_keep X4.out hb1 (Nat.le_refl _)
    have hwr := hw1.trans (hb1.mono (Nat.le_of_lt z1))
    by_cases hlt : k < n
    · have hon : oneB ts k = (decide ((ofL ts (k : Int) true).length = 1) && decide ((ofL ts (k : Int) false).length = 1)) := rfl
      generalize hL1 : (ofL ts (k : Int) true).length = l1 at hon
      generalize hL2 : (ofL ts (k : Int) false).length = l2 at hon
      have HL1 := Lib.hid hL1; clear hL1
      have HL2 := Lib.hid hL2; clear hL2
      have HON := Lib.hid hon; clear hon
      go_wp2_with fail
      refine (l3Of_true _ s (k : Int) _ lo (HV.out.keep (Carries.of lo hwr)) HS.out).mono ?_
      rintro e w2 ⟨r, rfl, hi, hb⟩
      obtain ⟨b0, k0, rfl, _, _⟩ := hi
      rw [← HP.out.2]
      rw [HL1.out]
      have hw2 : Below w1.heap.size w1 w2 := hb1.trans (hb.mono hb1.size)
      have x0 := cell_carry x0 (Carries.of 0 hb)
      have x1 := cell_carry x1 (Carries.of 0 hb)
      have x2 := cell_carry x2 (Carries.of 0 hb)
      have x3 := cell_carry x3 (Carries.of 0 hb)
      have x4 := cell_carry x4 (Carries.of 0 hb)
      have hwr2 := hw1.trans (hw2.mono (Nat.le_of_lt z1))
      clear hb
      by_cases h1 : l1 = 1
      case neg =>
        have e0 := HON.out
        rw [decide_eq_false h1, Bool.false_and] at e0
        have e := HR.out
        rw [markedB_false hlt e0] at e
        subst e
        have t0 : ((l1 : Int) == 1) = false := by rw [beq_eq_false_iff_ne]; omega
        have t1 : ((l1 : Int) != 1) = true := by rw [bne, t0]; rfl
        clear h1 e0
        go_wp2_with fail
        go_ret
        exact ⟨rfl, hwr2⟩
      have e0 := HON.out
      rw [decide_eq_true h1, Bool.true_and] at e0
      have HE := Lib.hid e0
      have t0 : ((l1 : Int) == 1) = true := by rw [beq_iff_eq]; omega
      have t1 : ((l1 : Int) != 1) = false := by rw [bne, t0]; rfl
      clear e0 h1
      go_wp2_with fail
      refine (l3Of_false _ s (k : Int) _ lo (HV.out.keep (Carries.of lo hwr2)) HS.out).mono ?_
      rintro e w3 ⟨r2, rfl, hi2, hb2⟩
      obtain ⟨b2, k2, rfl, _, _⟩ := hi2
      rw [← HP.out.2]
      rw [HL2.out]
      have hw3 : Below w1.heap.size w1 w3 := hw2.trans (hb2.mono hw2.size)
      have hwr3 := hw1.trans (hw3.mono (Nat.le_of_lt z1))
      clear hb2 t1 t0 x0 x1 x2 x3 x4
      by_cases h2 : l2 = 1
      · have e := HE.out
        rw [decide_eq_true h2] at e
        have H2 : Hid (∀ j, j < k + 1 → oneB ts j = true) := by
          intro j hj
          by_cases ej : j = k
          · subst ej; exact e
          · exact hall.out j (by omega)
        have t2 : ((l2 : Int) == 1) = true := by rw [beq_iff_eq]; omega
        have t3 : ((l2 : Int) != 1) = false := by rw [bne, t2]; rfl
        clear h2 e
        go_wp2_with fail
        go_roundw
        case rel => exact ⟨k + 1, by omega, by go_num, H2, hw3⟩
        case measure => simp [intOf]; omega
      · have e0 := HE.out
        rw [decide_eq_false h2] at e0
        have e := HR.out
        rw [markedB_false hlt e0] at e
        subst e
        have t2 : ((l2 : Int) == 1) = false := by rw [beq_eq_false_iff_ne]; omega
        have t3 : ((l2 : Int) != 1) = true := by rw [bne, t2]; rfl
        clear h2 e0
        go_wp2_with fail
        go_ret
        exact ⟨rfl, hwr3⟩
    · have hkk : k = n := by omega
      subst hkk
      have e := HR.out
      rw [markedB_true hall.out] at e
      subst e
      go_wp2_with fail
      go_ret
      exact ⟨rfl, hwr⟩

set_option maxRecDepth 100000 in
set_option maxHeartbeats 2000000 in
theorem specIsMarkedGraph_any (v : Value) (s : StgD) (w : World) (lo : Nat) (hv : StgAt lo w v s) (hs : SmallStg s) :
    Calls Try.prog 29 #[v] w (RetV w (.tuple #[.bool (goodS s && markedB s.net.ts s.net.places.toNat), .bool (goodS s)])) := by
  obtain ⟨B, hB⟩ : ∃ B, B = goodS s := ⟨_, rfl⟩
  obtain ⟨R, hR⟩ : ∃ R, R = (goodS s && markedB s.net.ts s.net.places.toNat) := ⟨_, rfl⟩
  rw [← hR, ← hB]
  have HB := Lib.hid hB; clear hB
  have HR := Lib.hid hR; clear hR
  obtain ⟨ao, cap, a1, c1, a2, c2, rfl, hn, hsg, hl⟩ := hv.form
  have ht := hn.trs
  clear hsg hl hn
  have HV := Lib.hid hv; clear hv
  have HT := Lib.hid ht; clear ht
  have HS := Lib.hid hs; clear hs
  obtain ⟨ts, hts⟩ : ∃ ts, ts = s.net.ts := ⟨_, rfl⟩
  obtain ⟨p, hp⟩ : ∃ p, p = s.net.places := ⟨_, rfl⟩
  obtain ⟨m, hm⟩ : ∃ m, m = s.net.ts.length := ⟨_, rfl⟩
  obtain ⟨ns, hns⟩ : ∃ ns, ns = s.sigs.length := ⟨_, rfl⟩
  obtain ⟨nl, hnl⟩ : ∃ nl, nl = s.labs.length := ⟨_, rfl⟩
  obtain ⟨st, hst⟩ : ∃ st, st = s.start := ⟨_, rfl⟩
  rw [← hp, ← hm, ← hns, ← hnl, ← hst] at HV ⊢
  rw [← hm, ← hts] at HT
  have HP := Lib.hid (And.intro hp hts)
  clear hp hm hns hnl hst hts
  go_enter Try.func29, Try.ntmps29
  go_wp2_with fail
  refine (l2Good_any _ s _ lo (HV.out.keep ?_) HS.out).mono ?_
  · (repeat' (first | (with_reducible exact Carries.refl _ _) | (with_reducible assumption) | (with_reducible refine Carries.alloc ?_ _) | (with_reducible refine Carries.drew ?_) | (with_reducible refine Carries.drewN ?_ _) | (with_reducible refine Carries.set ?_ ?_ _) | go_size))
  rintro e w1 ⟨rfl, hb⟩
  have hw1 : Below w.heap.size w w1 := by
    refine Below.trans ?_ (hb.mono ?_)
    · (repeat' (first | (with_reducible exact Below.refl _ _) | (with_reducible assumption) | (with_reducible refine Below.alloc ?_ ?_ _) | (with_reducible refine Below.drew ?_) | (with_reducible refine below_drewN ?_ _) | (with_reducible refine Below.setCell ?_ ?_ _) | go_size))
    · simp
  have x0 : w1.cell? ⟨w.heap.size, 0, none⟩ = some (.int .i64 p) := cell_carry (by simp) (Carries.of 0 hb)
  have x1 : w1.cell? ⟨w.heap.size, 1, none⟩ = some (.slice ao m cap) := cell_carry (by simp) (Carries.of 0 hb)
  have x2 : w1.cell? ⟨w.heap.size, 2, none⟩ = some (.slice a1 ns c1) := cell_carry (by simp) (Carries.of 0 hb)
  have x3 : w1.cell? ⟨w.heap.size, 3, none⟩ = some (.slice a2 nl c2) := cell_carry (by simp) (Carries.of 0 hb)
  have x4 : w1.cell? ⟨w.heap.size, 4, none⟩ = some (.string st) := cell_carry (by simp) (Carries.of 0 hb)
  clear hb
  cases hg : goodS s with
  | false =>
    have e1 := HB.out
    rw [hg] at e1
    have e2 := HR.out
    rw [hg, Bool.false_and] at e2
    subst e1; subst e2
    clear hg
    go_wp2_with fail
    go_ret2
    exact ⟨rfl, hw1⟩
  | true =>
  have e1 := HB.out
  rw [hg] at e1
  subst e1
  have e2 := HR.out
  rw [hg, Bool.true_and] at e2
  have hpb := goodS_places hg
  have HPB := Lib.hid hpb
  have HR2 := Lib.hid e2
  clear hg e2 hpb
  go_wp2_with fail
  refine (l3Marked_any _ s _ lo (HV.out.keep (Carries.of lo hw1)) HS.out HPB.out).mono ?_
  rintro e w2 ⟨rfl, hb⟩
  rw [← HR2.out]
  go_wp2_with fail
  go_ret2
  exact ⟨rfl, hw1.trans (hb.mono hw1.size)⟩

end Go.Proofs.Ytkkfglolameogaa
