/-
  WALKS: CountPaths of the program and of the model.
-/
import Derived.Test.YtjelnlhalpoinaaRgi
import Derived.StillTailTactics
namespace Go.Proofs.Ytjelnlhalpoinaa
open Go.RowKit

def lim (x : Int) : Int := if 1000001 < x then 1000001 else x
theorem lim_bd {x : Int} (h : 0 ≤ x) : 0 ≤ lim x ∧ lim x ≤ 1000001 := by unfold lim; split <;> omega
/-- the ways to each marking with one move more, by the first j moves -/
def nxF (ms : List Mv) (g : Nat → Int) : Nat → Nat → Int
  | 0 => fun _ => 0
  | j + 1 => fun i => if i = (mvT ms j).toNat then lim (nxF ms g j (mvT ms j).toNat + g (mvF ms j).toNat) else nxF ms g j i
def stF (ms : List Mv) : Nat → Nat → Int
  | 0 => fun i => if i = 0 then 1 else 0
  | k + 1 => nxF ms (stF ms k) ms.length
def Lim (g : Nat → Int) : Prop := ∀ i, 0 ≤ g i ∧ g i ≤ 1000001
theorem nxF_bd {ms : List Mv} {g : Nat → Int} (hg : Lim g) : ∀ j, Lim (nxF ms g j)
  | 0 => fun _ => by show 0 ≤ (0 : Int) ∧ (0 : Int) ≤ 1000001; omega
  | j + 1 => fun i => by
    have ih := nxF_bd (ms := ms) hg j
    unfold nxF
    split
    · exact lim_bd (by have := (ih (mvT ms j).toNat).1; have := (hg (mvF ms j).toNat).1; omega)
    · exact ih i
theorem stF_bd (ms : List Mv) : ∀ k, Lim (stF ms k)
  | 0 => fun i => by unfold stF; split <;> omega
  | k + 1 => by unfold stF; exact nxF_bd (stF_bd ms k) _
def totF (g : Nat → Int) : Nat → Int
  | 0 => 0
  | k + 1 => totF g k + g k
def limF (g : Nat → Int) : Nat → Int
  | 0 => 0
  | k + 1 => lim (limF g k + g k)
theorem totF_bd {g : Nat → Int} (hg : Lim g) : ∀ k : Nat, 0 ≤ totF g k ∧ totF g k ≤ 1000001 * (k : Int)
  | 0 => by simp [totF]
  | k + 1 => by
    have ih := totF_bd hg k
    have h := hg k
    unfold totF
    omega
theorem limF_eq {g : Nat → Int} (hg : Lim g) : ∀ k : Nat, limF g k = lim (totF g k)
  | 0 => by simp [limF, totF, lim]
  | k + 1 => by
    have ih := limF_eq hg k
    have h := hg k
    have hb := totF_bd hg k
    unfold limF totF
    rw [ih]
    unfold lim
    split <;> split <;> (try split) <;> omega
theorem limF_bd {g : Nat → Int} (hg : Lim g) (k : Nat) : 0 ≤ limF g k ∧ limF g k ≤ 1000001 := by
  rw [limF_eq hg]; exact lim_bd (totF_bd hg k).1
def cpT (r : RgD) (st : Int) : Int := totF (stF r.moves st.toNat) r.marks.length
def cpB (r : RgD) (st : Int) : Bool := goodR r && (decide (0 ≤ st ∧ st ≤ 12) && decide (cpT r st ≤ 1000000))
def cpI (r : RgD) (st : Int) : Int := if cpB r st = true then cpT r st else 0
theorem cp_of {r : RgD} {st : Int} (h : cpB r st = false) : cpI r st = 0 ∧ cpB r st = false := ⟨by unfold cpI; rw [h]; rfl, h⟩
theorem cp_bad {r : RgD} {st : Int} (h : goodR r = false) : cpI r st = 0 ∧ cpB r st = false := cp_of (by unfold cpB; rw [h]; rfl)
theorem cp_out {r : RgD} {st : Int} (h : ¬ (0 ≤ st ∧ st ≤ 12)) : cpI r st = 0 ∧ cpB r st = false := cp_of (by unfold cpB; rw [decide_eq_false h]; simp)
theorem cp_many {r : RgD} {st : Int} (h : ¬ cpT r st ≤ 1000000) : cpI r st = 0 ∧ cpB r st = false := cp_of (by unfold cpB; rw [decide_eq_false h]; simp)
theorem cp_yes {r : RgD} {st : Int} (h1 : goodR r = true) (h2 : 0 ≤ st ∧ st ≤ 12) (h3 : cpT r st ≤ 1000000) : cpI r st = cpT r st ∧ cpB r st = true := by
  have hb : cpB r st = true := by unfold cpB; rw [h1, decide_eq_true h2, decide_eq_true h3]; rfl
  exact ⟨by unfold cpI; rw [hb]; rfl, hb⟩

/-- ints by their places -/
def vals (g : Nat → Int) : Nat → Value := fun i => .int .i64 (g i)
theorem vals_set (ms : List Mv) (g : Nat → Int) (j : Nat) : (fun i => if i = (mvT ms j).toNat then Value.int .i64 (lim (nxF ms g j (mvT ms j).toNat + g (mvF ms j).toNat)) else vals (nxF ms g j) i) = vals (nxF ms g (j + 1)) := by
  funext i
  unfold vals
  show _ = Value.int .i64 (if i = (mvT ms j).toNat then lim (nxF ms g j (mvT ms j).toNat + g (mvF ms j).toNat) else nxF ms g j i)
  split <;> rfl
theorem rowIs_made1 (w : World) (o : Obj) (n : Nat) (f : Nat → Value) (hf : ∀ i, f i = .int .i64 0) : ((w.alloc o).alloc (.cells (madeCells #[.int .i64 0] n) 3)).rowIs (w.heap.size + 1) 3 n f := by
  have h := World.rowIs_made (w.alloc o) (.int .i64 0) n 3
  have e : (w.alloc o).heap.size = w.heap.size + 1 := by simp
  rw [e] at h
  exact h.congr (fun i _ => (hf i).symm)
def FnAt (lo : Nat) (w : World) (v : Value) (n : Nat) (g : Nat → Int) : Prop := ∃ b, v = .slice (some ⟨b, 0, none⟩) n n ∧ lo ≤ b ∧ w.rowIs b 3 n (vals g)
theorem FnAt.lt {lo : Nat} {w : World} {v : Value} {n : Nat} {g : Nat → Int} (h : FnAt lo w v n g) : ∀ b off, v = .slice (some ⟨b, off, none⟩) n n → b < w.heap.size := by
  obtain ⟨b, rfl, _, hr⟩ := h
  intro b' off he
  simp at he
  obtain ⟨rfl, rfl⟩ := he
  exact hr.lt
theorem FnAt.keep {lo : Nat} {w w' : World} {v : Value} {n : Nat} {g : Nat → Int} (h : FnAt lo w v n g) (hb : Below w.heap.size w w') : FnAt lo w' v n g := by
  obtain ⟨b, rfl, hlo, hr⟩ := h
  exact ⟨b, rfl, hlo, hr.of_block (hb.block b hr.lt)⟩
theorem FnAt.low {lo lo' : Nat} {w : World} {v : Value} {n : Nat} {g : Nat → Int} (h : FnAt lo w v n g) (hl : lo' ≤ lo) : FnAt lo' w v n g := by
  obtain ⟨b, rfl, hlo, hr⟩ := h
  exact ⟨b, rfl, by omega, hr⟩

set_option maxRecDepth 100000 in
set_option maxHeartbeats 2000000 in
theorem extendPaths_any (a0 : Option Addr) (nm c0 : Nat) (vm ve : Value) (ms : List Mv) (n : Nat) (g : Nat → Int) (w : World) (lo lo' : Nat) (hv : MovesAt lo w vm ms) (he : FnAt lo' w ve n g) (hn : n ≤ 300) (hl : ms.length ≤ 4000) (hg : Lim g)
    (hin : ∀ k, k < ms.length → (0 ≤ mvF ms k ∧ mvF ms k < n) ∧ (0 ≤ mvT ms k ∧ mvT ms k < n)) :
    Calls Try.prog 110 #[.agg #[.slice a0 nm c0, vm], ve] w (fun e w' => ∃ u, e = .returned u ∧ FnAt w.heap.size w' u n (nxF ms g ms.length) ∧ Below w.heap.size w w') := by
  obtain ⟨ao, cap, rfl, hc, hz⟩ := hv
  obtain ⟨be, rfl, hbe, hre⟩ := he
  have HF := Lib.hid hz; clear hz
  have HIN := Lib.hid hin; clear hin
  have HE := Lib.hid hre; clear hre
  have HG := Lib.hid hg; clear hg
  have hmk := run_make_row' (P := Try.prog) 51 3 (.int .i64 0) 8 Try.underlying51 Try.infoInt rfl .i64 .i64 n (by omega) (by omega)
  have zbe : be < w.heap.size := HE.out.lt
  go_enter Try.func110, Try.ntmps110
  go_wp2_with fail
  go_loopw [14] (fun i wr => ∃ k : Nat, k ≤ ms.length ∧ i = .int .i64 k ∧ Hid (wr.rowIs (w.heap.size + 1) 3 n (vals (nxF ms g k))) ∧ Below w.heap.size w wr ∧ w.heap.size + 1 < wr.heap.size) (fun i _ => ms.length - (intOf i).toNat)
  case atStart => exact ⟨0, Nat.zero_le _, rfl, rowIs_made1 _ _ _ _ (fun _ => rfl), by (repeat' (first | (with_reducible exact Below.refl _ _) | (with_reducible assumption) | (with_reducible refine Below.alloc ?_ ?_ _) | (with_reducible refine Below.drew ?_) | (with_reducible refine below_drewN ?_ _) | (with_reducible refine Below.setCell ?_ ?_ _) | go_size)), by simp⟩
  case round =>
    obtain ⟨k, hk, rfl, hrow, hb1, zz⟩ := hrel
    by_cases hlt : k < ms.length
    · rcases HF.out with h0 | ⟨b, off, rfl, hlo, hcell⟩
      · omega
      obtain ⟨q0, q1, q2⟩ := hcell k hlt
      have d0 := Carries.of lo hb1 _ _ hlo q0
      have d1 := Carries.of lo hb1 _ _ hlo q1
      have d2 := Carries.of lo hb1 _ _ hlo q2
      clear hcell q0 q1 q2
      try dsimp only at d0 d1 d2
      obtain ⟨⟨i0, i1⟩, i2, i3⟩ := HIN.out k hlt
      have hset := vals_set ms g k
      generalize mvB ms k = by_ at d1
      generalize mvF ms k = f at d0 i0 i1 hset
      generalize mvT ms k = t at d2 i2 i3 hset
      obtain ⟨fn, rfl⟩ : ∃ x : Nat, f = (x : Int) := ⟨f.toNat, by omega⟩
      obtain ⟨tn, rfl⟩ : ∃ x : Nat, t = (x : Int) := ⟨t.toNat, by omega⟩
      have i1 : fn < n := by omega
      have i3 : tn < n := by omega
      simp only [Int.toNat_natCast] at hset
      have hrow0 := hrow.out
      have r0 : wr.cell? ⟨w.heap.size + 1, tn, none⟩ = some (.int .i64 (nxF ms g k tn)) := hrow0.cell i3
      have r1 : wr.cell? ⟨be, fn, none⟩ = some (.int .i64 (g fn)) := Carries.of 0 hb1 _ _ (Nat.zero_le _) (HE.out.cell i1)
      have r2 := hrow0.frozen tn
      have b0 := nxF_bd (ms := ms) HG.out k tn
      have b1 := HG.out fn
      have HR2 := Lib.hid (fun (v : Value) => hrow0.set tn v)
      generalize nxF ms g k tn = x at r0 b0 hset
      generalize g fn = y at r1 b1 hset
      obtain ⟨x0, x1⟩ := b0
      obtain ⟨y0, y1⟩ := b1
      have HST := Lib.hid hset; clear hset hrow0
      have HR0 := Lib.hid hrow.out; clear hrow
      have hbA : Below wr.heap.size wr (wr.alloc (.cells #[.int .i64 fn, .int .i64 by_, .int .i64 tn] 142)) := (Below.refl _ _).alloc (Nat.le_refl _) _
      have r0 := cell_carry r0 (Carries.of 0 hbA)
      have r1 := cell_carry r1 (Carries.of 0 hbA)
      have r2 := (hbA.frozen (p := ⟨w.heap.size + 1, tn, none⟩) zz).trans r2
      have HA := Lib.hid (hb1.trans (hbA.mono hb1.size))
      have HR3 := Lib.hid (fun v => (HR0.out.of_block (hbA.block _ zz)).set tn v)
      go_wp2_with fail
      have y0 : (wr.alloc (.cells #[.int .i64 fn, .int .i64 by_, .int .i64 tn] 142)).cell? ⟨wr.heap.size, 0, none⟩ = some (.int .i64 fn) := by simp
      have y2 : (wr.alloc (.cells #[.int .i64 fn, .int .i64 by_, .int .i64 tn] 142)).cell? ⟨wr.heap.size, 2, none⟩ = some (.int .i64 tn) := by simp
      have zA : wr.heap.size < (wr.alloc (.cells #[.int .i64 fn, .int .i64 by_, .int .i64 tn] 142)).heap.size := by simp
      generalize wr.alloc (.cells #[.int .i64 fn, .int .i64 by_, .int .i64 tn] 142) = W1 at r0 r1 r2 y0 y2 zA HA HR3 ⊢
      have zW : w.heap.size + 1 < W1.heap.size := by omega
      by_cases hs : 1000001 < x + y
      · have hlm : lim (x + y) = 1000001 := by unfold lim; rw [if_pos hs]
        have HR4 : Hid (((W1.setCell ⟨w.heap.size + 1, tn, none⟩ (.int .i64 (1000001))).drew).rowIs (w.heap.size + 1) 3 n (vals (nxF ms g (k + 1)))) := by
          have h := HR3.out (.int .i64 (lim (x + y)))
          rw [HST.out] at h
          rw [hlm] at h
          exact h.drew
        have HBF : Hid (Below w.heap.size w ((W1.setCell ⟨w.heap.size + 1, tn, none⟩ (.int .i64 (1000001))).drew)) := (HA.out.setCell (p := ⟨w.heap.size + 1, tn, none⟩) (Nat.le_succ _) _).drew
        clear hlm
        go_still_tail 16, (by kernel_rfl)
        change wpList _ _ _ _ _ W1.drew
        go_wp2_with fail
        go_roundw
        case rel => exact ⟨k + 1, by omega, by go_num, HR4, HBF.out, by simp; omega⟩
        case measure => simp [intOf]; omega
      · have hlm : lim (x + y) = x + y := by unfold lim; rw [if_neg hs]
        have HR4 : Hid (((W1.setCell ⟨w.heap.size + 1, tn, none⟩ (.int .i64 (x + y))).drew).rowIs (w.heap.size + 1) 3 n (vals (nxF ms g (k + 1)))) := by
          have h := HR3.out (.int .i64 (lim (x + y)))
          rw [HST.out] at h
          rw [hlm] at h
          exact h.drew
        have HBF : Hid (Below w.heap.size w ((W1.setCell ⟨w.heap.size + 1, tn, none⟩ (.int .i64 (x + y))).drew)) := (HA.out.setCell (p := ⟨w.heap.size + 1, tn, none⟩) (Nat.le_succ _) _).drew
        clear hlm
        go_still_tail 16, (by kernel_rfl)
        change wpList _ _ _ _ _ W1.drew
        go_wp2_with fail
        go_roundw
        case rel => exact ⟨k + 1, by omega, by go_num, HR4, HBF.out, by simp; omega⟩
        case measure => simp [intOf]; omega
    · have hkk : k = ms.length := by omega
      subst hkk
      go_wp2_with fail
      go_ret
      exact ⟨_, rfl, ⟨_, rfl, by omega, hrow.out⟩, hb1⟩

theorem stF_zero (ms : List Mv) : (fun i => if i = 0 then Value.int .i64 1 else Value.int .i64 0) = vals (stF ms 0) := by
  funext i
  unfold vals stF
  split <;> rfl

set_option maxRecDepth 100000 in
set_option maxHeartbeats 4000000 in
theorem CountPaths_any (v : Value) (s : RgD) (st : Int) (w : World) (lo : Nat) (hv : RgAt lo w v s) (hs : SmallRg s) :
    Calls Try.prog 51 #[v, .int .i64 st] w (RetV w (.tuple #[.int .i64 (cpI s st), .bool (cpB s st)])) := by
  obtain ⟨a0, c0, a1, c1, rfl, hm, hl⟩ := hv.form
  clear hm
  have e1 : goodR s = false → cpI s st = 0 ∧ cpB s st = false := cp_bad
  have e2 : ¬ (0 ≤ st ∧ st ≤ 12) → cpI s st = 0 ∧ cpB s st = false := cp_out
  have e3 : ¬ cpT s st ≤ 1000000 → cpI s st = 0 ∧ cpB s st = false := cp_many
  have e4 : goodR s = true → (0 ≤ st ∧ st ≤ 12) → cpT s st ≤ 1000000 → cpI s st = cpT s st ∧ cpB s st = true := cp_yes
  have e5 : cpT s st = totF (stF s.moves st.toNat) s.marks.length := rfl
  have e6 : goodR s = true → 1 ≤ s.marks.length ∧ s.marks.length ≤ 300 ∧ s.moves.length ≤ 4000 := goodR_len
  have e7 : goodR s = true → ∀ k, k < s.moves.length → (0 ≤ mvF s.moves k ∧ mvF s.moves k < s.marks.length) ∧ (0 ≤ mvT s.moves k ∧ mvT s.moves k < s.marks.length) := fun h k hk => ⟨(goodR_moves h hk).1, (goodR_moves h hk).2.1⟩
  obtain ⟨I, hI⟩ : ∃ x, x = cpI s st := ⟨_, rfl⟩
  obtain ⟨B, hB⟩ : ∃ x, x = cpB s st := ⟨_, rfl⟩
  obtain ⟨T, hT⟩ : ∃ x, x = cpT s st := ⟨_, rfl⟩
  rw [← hI, ← hB] at e1 e2 e3 e4 ⊢
  rw [← hT] at e3 e4 e5
  clear hI hB hT
  obtain ⟨G, hG⟩ : ∃ G, G = goodR s := ⟨_, rfl⟩
  rw [← hG] at e1 e4 e6 e7
  have HGG := Lib.hid hG; clear hG
  have E1 := Lib.hid e1; clear e1
  have E2 := Lib.hid e2; clear e2
  have E3 := Lib.hid e3; clear e3
  have E4 := Lib.hid e4; clear e4
  have HV := Lib.hid hv; clear hv
  have HS := Lib.hid hs; clear hs
  obtain ⟨nm, hnm⟩ : ∃ x, x = s.marks.length := ⟨_, rfl⟩
  obtain ⟨ms, hms⟩ : ∃ x, x = s.moves := ⟨_, rfl⟩
  rw [← hnm, ← hms] at HV ⊢
  rw [← hms] at hl
  rw [← hnm, ← hms] at e5 e6 e7
  have E5 := Lib.hid e5; clear e5
  have E6 := Lib.hid e6; clear e6
  have E7 := Lib.hid e7; clear e7
  clear hnm hms
  have HL := Lib.hid hl; clear hl
  go_enter Try.func51, Try.ntmps51
  go_wp2_with fail
  refine (isReach_any _ s _ lo (HV.out.keep ?_) HS.out).mono ?_
  · (repeat' (first | (with_reducible exact Carries.refl _ _) | (with_reducible assumption) | (with_reducible refine Carries.alloc ?_ _) | (with_reducible refine Carries.drew ?_) | (with_reducible refine Carries.drewN ?_ _) | (with_reducible refine Carries.set ?_ ?_ _) | go_size))
  rintro e W ⟨rfl, hb⟩
  have hW : Below w.heap.size w W := by
    refine Below.trans ?_ (hb.mono ?_)
    · (repeat' (first | (with_reducible exact Below.refl _ _) | (with_reducible assumption) | (with_reducible refine Below.alloc ?_ ?_ _) | (with_reducible refine Below.drew ?_) | (with_reducible refine below_drewN ?_ _) | (with_reducible refine Below.setCell ?_ ?_ _) | go_size))
    · simp
  have x0 : W.cell? ⟨w.heap.size, 0, none⟩ = some (.slice a0 nm c0) := cell_carry (by simp) (Carries.of 0 hb)
  have x1 : W.cell? ⟨w.heap.size, 1, none⟩ = some (.slice a1 ms.length c1) := cell_carry (by simp) (Carries.of 0 hb)
  have zW := hW.size
  clear hb
  rw [← HGG.out]
  cases hg : G with
  | false =>
    obtain ⟨rfl, rfl⟩ := E1.out hg
    subst hg
    go_wp2_with fail
    go_ret2
    exact ⟨rfl, hW⟩
  | true =>
  obtain ⟨l1, l2, l3⟩ := E6.out hg
  have F4 := Lib.hid (E4.out hg)
  have F7 := Lib.hid (E7.out hg)
  clear E1 E4 E6 E7 HGG
  subst hg
  by_cases hs0 : 0 ≤ st
  case neg =>
    obtain ⟨rfl, rfl⟩ := E2.out (fun h => hs0 h.1)
    go_wp2_with fail
    go_ret2
    exact ⟨rfl, hW⟩
  by_cases hs1 : st ≤ 12
  case neg =>
    obtain ⟨rfl, rfl⟩ := E2.out (fun h => hs1 h.2)
    go_wp2_with fail
    go_ret2
    exact ⟨rfl, hW⟩
  have F4b := Lib.hid (F4.out ⟨hs0, hs1⟩)
  clear E2 F4
  obtain ⟨sn, rfl⟩ : ∃ n : Nat, st = (n : Int) := ⟨st.toNat, by omega⟩
  have hsn : sn ≤ 12 := by omega
  have e5 := E5.out
  simp only [Int.toNat_natCast] at e5
  have E5 := Lib.hid e5; clear e5
  have hmk := run_make_row' (P := Try.prog) 51 3 (.int .i64 0) 8 Try.underlying51 Try.infoInt rfl .i64 .i64 nm (by omega) (by omega)
  have hrow := World.rowIs_made W (.int .i64 0) nm 3
  have c0_ := hrow.cell (i := 0) (by omega)
  have f0_ := hrow.frozen 0
  have hrow1 := hrow.set 0 (.int .i64 1)
  rw [World.setCell_alloc_at (hn := rfl)] at hrow1
  have HROW : Hid ((W.alloc (.cells ((madeCells #[.int .i64 0] nm).setIfInBounds 0 (.int .i64 1)) 3)).rowIs W.heap.size 3 nm (vals (stF ms 0))) := by
    rw [← stF_zero]; exact hrow1
  clear hrow hrow1
  go_wp2_with fail
  go_loopw [6, 28] (fun v i wr => ∃ k : Nat, k ≤ sn ∧ i = .int .i64 k ∧ Hid (FnAt W.heap.size wr v nm (stF ms k)) ∧ Below W.heap.size W wr) (fun _ i _ => sn - (intOf i).toNat)
  case atStart => exact ⟨0, Nat.zero_le _, rfl, ⟨_, rfl, Nat.le_refl _, HROW.out⟩, by (repeat' (first | (with_reducible exact Below.refl _ _) | (with_reducible assumption) | (with_reducible refine Below.alloc ?_ ?_ _) | (with_reducible refine Below.drew ?_) | (with_reducible refine below_drewN ?_ _) | (with_reducible refine Below.setCell ?_ ?_ _) | go_size))⟩
  case round =>
    obtain ⟨k, hk, rfl, hfn, hb1⟩ := hrel
    have zz1 := hb1.size
    by_cases hlt : k < sn
    · have x0 := cell_keep x0 hb1 (Nat.le_refl _)
      have x1 := cell_keep x1 hb1 (Nat.le_refl _)
      go_wp2_with fail
      refine (extendPaths_any _ _ _ _ _ ms nm (stF ms k) _ lo _ (HL.out.keep (Carries.of lo (hW.trans (hb1.mono zW)))) hfn.out l2 l3 (stF_bd ms k) F7.out).mono ?_
      rintro e w2 ⟨u, rfl, hr, hb⟩
      have hw2 : Below W.heap.size W w2 := hb1.trans (hb.mono zz1)
      have HR : Hid (FnAt W.heap.size w2 u nm (stF ms (k + 1))) := hr.low zz1
      clear hr hb x0 x1 hfn
      go_wp2_with fail
      go_roundw
      case rel => exact ⟨k + 1, by omega, by go_num, HR, hw2⟩
      case measure => simp [intOf]; omega
    · have hkk : k = sn := by omega
      subst hkk
      obtain ⟨b, rfl, hbl, hrw⟩ := hfn.out
      have HRW := Lib.hid hrw; clear hrw hfn
      clear x0 x1
      obtain ⟨gg, hgg⟩ : ∃ g, g = stF ms k := ⟨_, rfl⟩
      have HLM : Hid (Lim gg) := by unfold Hid; rw [hgg]; exact stF_bd ms k
      rw [← hgg] at E5 HRW
      clear hgg
      obtain ⟨W2, hW2⟩ : ∃ W2, W2 = wr := ⟨_, rfl⟩
      subst hW2
      go_wp2_with fail
      go_loopw [7, 36] (fun tv i wr => ∃ j : Nat, j ≤ nm ∧ i = .int .i64 j ∧ tv = .int .i64 (totF gg j) ∧ Below W2.heap.size W2 wr) (fun _ i _ => nm - (intOf i).toNat)
      case atStart => exact ⟨0, Nat.zero_le _, rfl, rfl, Below.refl _ _⟩
      case round =>
        obtain ⟨j, hj, rfl, rfl, hb2⟩ := hrel
        have ht := totF_bd HLM.out j
        have hte : totF gg (j + 1) = totF gg j + gg j := rfl
        have hgj := HLM.out j
        by_cases hlt2 : j < nm
        · have d0 : wr.cell? ⟨b, j, none⟩ = some (.int .i64 (gg j)) := Carries.of 0 hb2 _ _ (Nat.zero_le _) (HRW.out.cell hlt2)
          generalize gg j = y at d0 hte hgj
          obtain ⟨t0, t1⟩ := ht
          obtain ⟨y0, y1⟩ := hgj
          have HTE := Lib.hid hte; clear hte
          generalize totF gg j = x at t0 t1 HTE
          go_wp2_with fail
          go_roundw
          case rel => exact ⟨j + 1, by omega, by go_num, by rw [HTE.out], by (repeat' (first | (with_reducible exact Below.refl _ _) | (with_reducible assumption) | (with_reducible refine Below.alloc ?_ ?_ _) | (with_reducible refine Below.drew ?_) | (with_reducible refine below_drewN ?_ _) | (with_reducible refine Below.setCell ?_ ?_ _) | go_size))⟩
          case measure => simp [intOf]; omega
        · have hjj : j = nm := by omega
          subst hjj
          have e5 := E5.out
          rw [← e5] at ht ⊢
          obtain ⟨t0, t1⟩ := ht
          clear e5 hgj hte
          have hwr := hW.trans ((hb1.trans (hb2.mono zz1)).mono zW)
          by_cases hT : T ≤ 1000000
          · obtain ⟨rfl, rfl⟩ := F4b.out hT
            go_wp2_with fail
            go_ret2
            exact ⟨rfl, hwr⟩
          · obtain ⟨rfl, rfl⟩ := E3.out (by omega)
            go_wp2_with fail
            go_ret2
            exact ⟨rfl, hwr⟩

end Go.Proofs.Ytjelnlhalpoinaa
