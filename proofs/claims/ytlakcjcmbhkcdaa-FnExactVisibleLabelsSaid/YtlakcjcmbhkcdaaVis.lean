/-
  WALKS: l1All, VisibleLabels of the model and of the program.
-/
import Derived.Test.YtlakcjcmbhkcdaaVisa
import Derived.Test.YtlakcjcmbhkcdaaArrb
namespace Go.Proofs.Ytlakcjcmbhkcdaa
open Go.RowKit

def AllTo (lo hi : Int) (l : List Int) (k : Nat) : Prop := ∀ i, i < k → lo ≤ l.getD i 0 ∧ l.getD i 0 ≤ hi
instance (lo hi : Int) (l : List Int) (k : Nat) : Decidable (AllTo lo hi l k) := by unfold AllTo; infer_instance
def allB (lo hi : Int) (l : List Int) : Bool := decide (AllTo lo hi l l.length)
theorem allB_bad {lo hi : Int} {l : List Int} {k : Nat} (hk : k < l.length) (h : ¬ (lo ≤ l.getD k 0 ∧ l.getD k 0 ≤ hi)) : allB lo hi l = false := decide_eq_false fun hh => h (hh k hk)
theorem AllTo.succ {lo hi : Int} {l : List Int} {k : Nat} (h : AllTo lo hi l k) (hk : lo ≤ l.getD k 0 ∧ l.getD k 0 ≤ hi) : AllTo lo hi l (k + 1) := by
  intro i hi'
  by_cases e : i = k
  · subst e; exact hk
  · exact h i (by omega)

set_option maxHeartbeats 400000 in
theorem l1All_any (v : Value) (zs : List Int) (a b : Int) (w : World) (lo : Nat) (hv : IntsAt lo w v zs) (hn : zs.length ≤ 1048576) :
    Calls Try.prog 95 #[v, .int .i64 a, .int .i64 b] w (RetB w (allB a b zs)) := by
  generalize hG : allB a b zs = g
  have HG := Lib.hid hG; clear hG
  obtain ⟨ao, cap, rfl, hc, hz⟩ := hv
  have HF := Lib.hid hz; clear hz
  go_enter Try.func95, Try.ntmps95
  go_wp2_with fail
  go_loopw [11] (fun i wr => ∃ k : Nat, k ≤ zs.length ∧ i = .int .i64 k ∧ Hid (AllTo a b zs k) ∧ Below w.heap.size w wr) (fun i _ => zs.length - (intOf i).toNat)
  case atStart => exact ⟨0, Nat.zero_le _, rfl, fun i hi => absurd hi (Nat.not_lt_zero _), Below.refl _ _⟩
  case round =>
    obtain ⟨k, hk, rfl, hall, hb1⟩ := hrel
    by_cases hlt : k < zs.length
    · rcases HF.out with rfl | ⟨c, off, rfl, hlo, hcell⟩
      · simp at hlt
      have c1 := Carries.of lo hb1 _ _ hlo (hcell k hlt)
      clear hcell
      have hbad := fun h => allB_bad (lo := a) (hi := b) (l := zs) hlt h
      rw [HG.out] at hbad
      have HB := Lib.hid hbad; clear hbad
      have HS := Lib.hid (fun h => hall.out.succ (k := k) h)
      generalize zs.getD k 0 = x at c1 HB HS
      go_wp2_with fail
      refine (l1In_any _ _ _ _).mono ?_
      rintro e w1 ⟨rfl, hb⟩
      have hw1 : Below w.heap.size w w1 := hb1.trans (hb.mono hb1.size)
      by_cases hin : a ≤ x ∧ x ≤ b
      · rw [decide_eq_true hin]
        have H2 := Lib.hid (HS.out hin)
        clear hin
        go_wp2_with fail
        go_roundw
        case rel => exact ⟨k + 1, by omega, by go_num, H2.out, hw1⟩
        case measure => simp [intOf]; omega
      · rw [decide_eq_false hin]
        have hfin := HB.out hin
        subst hfin
        clear hin
        go_wp2_with fail
        go_ret
        exact ⟨rfl, hw1⟩
    · have hkk : k = zs.length := by omega
      subst hkk
      have hfin : allB a b zs = true := decide_eq_true hall.out
      rw [HG.out] at hfin
      subst hfin
      go_wp2_with fail
      go_ret
      exact ⟨rfl, hb1⟩

/-- the labels of the first k transitions of the list that are no dummies -/
def visTo (ls : List Lab) (l : List Int) (k : Nat) : List Lab := ((List.range k).filter (fun i => decide (0 ≤ lbS ls (l.getD i 0).toNat))).map (fun i => (lbS ls (l.getD i 0).toNat, lbU ls (l.getD i 0).toNat))
theorem visTo_yes {ls : List Lab} {l : List Int} {k : Nat} (h : 0 ≤ lbS ls (l.getD k 0).toNat) : visTo ls l (k + 1) = visTo ls l k ++ [(lbS ls (l.getD k 0).toNat, lbU ls (l.getD k 0).toNat)] := by
  unfold visTo
  rw [List.range_succ, List.filter_append, List.filter_cons_of_pos (by simpa using h), List.filter_nil, List.map_append]
  rfl
theorem visTo_no {ls : List Lab} {l : List Int} {k : Nat} (h : ¬ 0 ≤ lbS ls (l.getD k 0).toNat) : visTo ls l (k + 1) = visTo ls l k := by
  unfold visTo
  rw [List.range_succ, List.filter_append, List.filter_cons_of_neg (by simpa using h), List.filter_nil, List.append_nil]
theorem visTo_length (ls : List Lab) (l : List Int) (k : Nat) : (visTo ls l k).length ≤ k := by
  unfold visTo
  rw [List.length_map]
  exact Nat.le_trans (List.length_filter_le _ _) (by simp)
def visB (s : StgD) (l : List Int) : Bool := goodS s && (decide (l.length ≤ 200) && allB 0 ((s.labs.length : Int) - 1) l)
def visL (s : StgD) (l : List Int) : List Lab := if visB s l = true then visTo s.labs l l.length else []
theorem visL_no {s : StgD} {l : List Int} (h : visB s l = false) : visL s l = [] := by unfold visL; rw [h]; rfl
theorem visL_yes {s : StgD} {l : List Int} (h : visB s l = true) : visL s l = visTo s.labs l l.length := by unfold visL; rw [h]; rfl
theorem visL_small {s : StgD} {l : List Int} (h : l.length ≤ 1048576) : (visL s l).length ≤ 1048576 := by
  unfold visL
  by_cases hb : visB s l = true
  · rw [if_pos hb]; exact Nat.le_trans (visTo_length _ _ _) h
  · rw [if_neg hb]; exact Nat.zero_le _

/-- a call returns labels of its own, and this bool -/
def RetLv (w : World) (l : List Lab) (b : Bool) (e : Ending) (w' : World) : Prop := ∃ v, e = .returned (.tuple #[v, .bool b]) ∧ LRow w.heap.size w' v l ∧ Below w.heap.size w w'
theorem LRow.low {B B' : Nat} {w : World} {v : Value} {ls : List Lab} (h : LRow B w v ls) (hB : B' ≤ B) : LRow B' w v ls := Go.Joins.ownsRow_le h hB

set_option maxRecDepth 100000 in
set_option maxHeartbeats 2000000 in
theorem specVisibleLabels_any (v vl : Value) (s : StgD) (l : List Int) (w : World) (lo lo' : Nat) (hv : StgAt lo w v s) (hvl : IntsAt lo' w vl l) (hs : SmallStg s) (hln : l.length ≤ 1048576) :
    Calls Try.prog 48 #[v, vl] w (RetLv w (visL s l) (visB s l)) := by
  obtain ⟨a0, c0, a1, c1, a2, c2, rfl, hn, hsg, hl⟩ := hv.form
  clear hn hsg
  have HV := Lib.hid hv; clear hv
  have hll := hs.2.2.1
  have HS := Lib.hid hs; clear hs
  obtain ⟨BB, hB⟩ : ∃ B, B = visB s l := ⟨_, rfl⟩
  obtain ⟨LL, hL⟩ : ∃ L, L = visL s l := ⟨_, rfl⟩
  rw [← hB, ← hL]
  have HB := Lib.hid hB; clear hB
  have HLL := Lib.hid hL; clear hL
  obtain ⟨p, hp⟩ : ∃ p, p = s.net.places := ⟨_, rfl⟩
  obtain ⟨m, hm⟩ : ∃ m, m = s.net.ts.length := ⟨_, rfl⟩
  obtain ⟨ns, hns⟩ : ∃ ns, ns = s.sigs.length := ⟨_, rfl⟩
  obtain ⟨ls, hls⟩ : ∃ ls, ls = s.labs := ⟨_, rfl⟩
  obtain ⟨st, hst⟩ : ∃ st, st = s.start := ⟨_, rfl⟩
  rw [← hp, ← hm, ← hns, ← hls, ← hst] at HV ⊢
  rw [← hls] at hl hll
  have HP := Lib.hid hls
  clear hp hm hns hls hst
  obtain ⟨al, capl, hal, hcl, hzl⟩ := hl
  simp only [Value.slice.injEq, true_and] at hal
  obtain ⟨rfl, rfl⟩ := hal
  have HF := Lib.hid hzl; clear hzl
  have HI := Lib.hid hvl
  obtain ⟨ai, ci, rfl, hci, hzi⟩ := hvl
  have HFI := Lib.hid hzi; clear hzi
  go_enter Try.func48, Try.ntmps48
  go_wp2_with fail
  refine (l2Good_any _ s _ lo (HV.out.keep ?_) HS.out).mono ?_
  · (repeat' (first | (with_reducible exact Carries.refl _ _) | (with_reducible assumption) | (with_reducible refine Carries.alloc ?_ _) | (with_reducible refine Carries.drew ?_) | (with_reducible refine Carries.drewN ?_ _) | (with_reducible refine Carries.set ?_ ?_ _) | go_size))
  rintro e w1 ⟨rfl, hb⟩
  have hw1 : Below w.heap.size w w1 := by
    refine Below.trans ?_ (hb.mono ?_)
    · (repeat' (first | (with_reducible exact Below.refl _ _) | (with_reducible assumption) | (with_reducible refine Below.alloc ?_ ?_ _) | (with_reducible refine Below.drew ?_) | (with_reducible refine below_drewN ?_ _) | (with_reducible refine Below.setCell ?_ ?_ _) | go_size))
    · simp
  have x3 : w1.cell? ⟨w.heap.size, 3, none⟩ = some (.slice a2 ls.length c2) := cell_carry (by simp) (Carries.of 0 hb)
  have z1 : w.heap.size < w1.heap.size := by have := hb.size; simp at this; omega
  clear hb
  cases hg : goodS s with
  | false =>
    have hf : visB s l = false := by unfold visB; rw [hg]; rfl
    have e2 := HLL.out
    rw [visL_no hf] at e2
    have e1 := HB.out
    rw [hf] at e1
    subst e1; subst e2
    clear hg hf
    go_wp2_with fail
    go_ret2
    exact ⟨_, rfl, LRow.nil _ _, hw1⟩
  | true =>
  have HGS := Lib.hid hg; clear hg
  by_cases h200 : l.length ≤ 200
  case neg =>
    have hf : visB s l = false := by unfold visB; rw [decide_eq_false h200]; simp
    have e2 := HLL.out
    rw [visL_no hf] at e2
    have e1 := HB.out
    rw [hf] at e1
    subst e1; subst e2
    clear hf
    go_wp2_with fail
    go_ret2
    exact ⟨_, rfl, LRow.nil _ _, hw1⟩
  go_wp2_with fail
  refine (l1All_any _ l _ _ _ lo' (HI.out.keep (Carries.of lo' hw1)) hln).mono ?_
  rintro e W ⟨rfl, hb⟩
  have hW : Below w.heap.size w W := hw1.trans (hb.mono hw1.size)
  have zW1 : w.heap.size < W.heap.size := by have := hb.size; omega
  have x3 := cell_carry x3 (Carries.of 0 hb)
  clear hb hw1
  cases ha : allB 0 ((ls.length : Int) - 1) l with
  | false =>
    have hf : visB s l = false := by unfold visB; rw [← HP.out, ha]; simp
    have e2 := HLL.out
    rw [visL_no hf] at e2
    have e1 := HB.out
    rw [hf] at e1
    subst e1; subst e2
    clear ha hf
    go_wp2_with fail
    go_ret2
    exact ⟨_, rfl, LRow.nil _ _, hW⟩
  | true =>
  have hf : visB s l = true := by unfold visB; rw [HGS.out, decide_eq_true h200, ← HP.out, ha]; rfl
  have e2 := HLL.out
  rw [visL_yes hf, ← HP.out] at e2
  have e1 := HB.out
  rw [hf] at e1
  subst e1
  have HIN := Lib.hid (of_decide_eq_true ha)
  have HL := Lib.hid e2
  clear ha hf HLL HB e2
  have zW := hW.size
  have X3 := Lib.hid x3; clear x3
  go_wp2_with fail
  go_loopw [6, 28] (fun u i wr => ∃ k : Nat, k ≤ l.length ∧ i = .int .i64 k ∧ Hid (LRow W.heap.size wr u (visTo ls l k)) ∧ Below W.heap.size W wr) (fun _ i _ => l.length - (intOf i).toNat)
  case atStart => exact ⟨0, Nat.zero_le _, rfl, LRow.nil _ _, Below.refl _ _⟩
  case round =>
    obtain ⟨k, hk, rfl, hown, hb1⟩ := hrel
    have zz1 := hb1.size
    by_cases hlt : k < l.length
    · rcases HFI.out with rfl | ⟨bi, offi, rfl, hloi, hcelli⟩
      · simp at hlt
      have ci1 := Carries.of lo' (hW.trans (hb1.mono zW)) _ _ hloi (hcelli k hlt)
      have hin := HIN.out k hlt
      have hvy := fun h => visTo_yes (ls := ls) (l := l) (k := k) h
      have hvn := fun h => visTo_no (ls := ls) (l := l) (k := k) h
      have hle := visTo_length ls l k
      generalize l.getD k 0 = t at ci1 hin hvy hvn
      obtain ⟨j, rfl⟩ : ∃ j : Nat, t = (j : Int) := ⟨t.toNat, by omega⟩
      simp only [Int.toNat_natCast] at hvy hvn
      have hjl : j < ls.length := by omega
      rcases HF.out with h0 | ⟨b, off, rfl, hlo, hcell⟩
      · omega
      obtain ⟨q0, q1⟩ := hcell j hjl
      have d0 := Carries.of lo (hW.trans (hb1.mono zW)) _ _ hlo q0
      have d1 := Carries.of lo (hW.trans (hb1.mono zW)) _ _ hlo q1
      have x3 := cell_keep X3.out hb1 (Nat.le_refl _)
      clear hcell hcelli q0 q1
      try dsimp only at d0 d1
      have HVY := Lib.hid hvy; clear hvy
      have HVN := Lib.hid hvn; clear hvn
      generalize lbS ls j = y0 at d0 HVY HVN
      generalize lbU ls j = y1 at d1 HVY HVN
      by_cases hy : 0 ≤ y0
      · have he := HVY.out hy
        have HE := Lib.hid he; clear he
        go_wp2_with (refine wpList_append_lab rfl (.tmp 39) (.tmp 45) rfl W.heap.size _ (visTo ls l k) rfl (World.ownsRow.alloc hown.out _) _ y0 y1 rfl (by simp) (by simp) (by omega) (by simp; omega) ?_; intro v' w' hown' hgrow)
        have hw4 : Below W.heap.size W w' := (hb1.alloc zz1 _).grown hgrow (by simp; omega) (fun g hg => (hown.out.lt g hg).1)
        have HO4 := Lib.hid (show LRow W.heap.size w' v' (visTo ls l (k + 1)) by rw [HE.out]; exact hown')
        clear hown' hgrow
        go_wp2_with fail
        go_roundw
        case rel => exact ⟨k + 1, by omega, by go_num, HO4.out, hw4⟩
        case measure => simp [intOf]; omega
      · have he := HVN.out hy
        have HO4 := Lib.hid (show LRow W.heap.size wr u6 (visTo ls l (k + 1)) by rw [he]; exact hown.out)
        clear he hown
        go_wp2_with fail
        go_roundw
        case rel => exact ⟨k + 1, by omega, by go_num, HO4.out, hb1⟩
        case measure => simp [intOf]; omega
    · have hkk : k = l.length := by omega
      have HO2 : Hid (LRow w.heap.size wr u6 LL) := by
        have h := hown.out.low zW
        rw [hkk, ← HL.out] at h
        exact h
      subst hkk
      go_wp2_with fail
      go_ret2
      exact ⟨_, rfl, HO2.out, hW.trans (hb1.mono zW)⟩

end Go.Proofs.Ytlakcjcmbhkcdaa
