/- WALKS: isNonInput, NonInputSignals of the program; l6Own, l6Owned, NonInputSignals of the model.
   EXCITATION of a signal in a state, as data.
   WALKS: excitations of the program: for each state, which signals that count are excited. -/
import Derived.Test.YtnmoocgocnjdjaaGreatVSgv
import Derived.Test.YtnmoocgocnjdjaaGreatVSgu
import Derived.Test.YtnmoocgocnjdjaaGreatVApb
import Derived.Test.YtnmoocgocnjdjaaGreatVOvk
import Derived.Test.YtnmoocgocnjdjaaGreatVSgp
import Derived.Test.YtnmoocgocnjdjaaGreatVSgi
import Derived.BigRegion
namespace Go.Proofs.YtnmoocgocnjdjaaGreat
open Go.RowKit

/-- a signal is no input -/
def niF (r : SgD) : Nat → Bool := fun k => (sgK r.sigs k != 1)
def niB (r : SgD) (x : Int) : Bool := decide (0 ≤ x ∧ x < (r.sigs.length : Int)) && niF r x.toNat
def niL (r : SgD) : List Int := if goodG r = true then enTo (niF r) r.sigs.length else []
theorem niL_no {r : SgD} (h : goodG r = false) : niL r = [] := by unfold niL; rw [h]; rfl
theorem niL_yes {r : SgD} (h : goodG r = true) : niL r = enTo (niF r) r.sigs.length := by unfold niL; rw [h]; rfl
theorem niL_small {r : SgD} (h : SmallSg r) : (niL r).length ≤ 1048576 := by
  unfold niL
  by_cases hb : goodG r = true
  · rw [if_pos hb]; exact Nat.le_trans (enTo_length _ _) h.1.1
  · rw [if_neg hb]; exact Nat.zero_le _

set_option maxRecDepth 100000 in
set_option maxHeartbeats 1000000 in
/-- the model's test, where the signal is there (or is none) -/
theorem l6Own_any (v : Value) (r : SgD) (x : Int) (w : World) (lo : Nat) (hv : SgAt lo w v r) (hs : SmallSg r) (hx : x < (r.sigs.length : Int)) :
    Calls Tryz.prog 139 #[v, .int .i64 x] w (RetB w (decide (x < 0) || niF r x.toNat)) := by
  have KG := hs.1.1
  obtain ⟨q, hq⟩ : ∃ q, q = (decide (x < 0) || niF r x.toNat) := ⟨_, rfl⟩
  rw [← hq]
  obtain ⟨a0, c0, a1, c1, a2, c2, rfl, h_0, h_1, h_2⟩ := hv.form
  clear hv h_1 h_2 hs
  obtain ⟨ao, cap, hvv, hc, hz⟩ := h_0
  injection hvv with e1 e2 e3
  subst e1; subst e3; clear e2
  obtain ⟨ng, hng⟩ : ∃ n, n = r.sigs.length := ⟨_, rfl⟩
  obtain ⟨nc, hnc⟩ : ∃ n, n = r.codes.length := ⟨_, rfl⟩
  obtain ⟨na, hna⟩ : ∃ n, n = r.arcs.length := ⟨_, rfl⟩
  have hz2 := hz
  rw [← hng] at KG hx hz2
  rw [← hng, ← hnc, ← hna]
  clear hng hnc hna hz
  have hal : Below w.heap.size w (w.alloc (.cells #[.slice a0 ng c0, .slice a1 nc c1, .slice a2 na c2] 80)) := (Below.refl _ _).alloc (Nat.le_refl _) _
  have x0 : (w.alloc (.cells #[.slice a0 ng c0, .slice a1 nc c1, .slice a2 na c2] 80)).cell? ⟨w.heap.size, 0, none⟩ = some (.slice a0 ng c0) := by simp
  by_cases hr : x < 0
  · rw [decide_eq_true hr, Bool.true_or] at hq
    subst hq
    go_enter Tryz.func139, Tryz.ntmps139
    go_wp2_with fail
    go_ret
    exact ⟨rfl, hal⟩
  · obtain ⟨k, rfl⟩ := Int.eq_ofNat_of_zero_le (show 0 ≤ x by omega)
    have hk : k < ng := by omega
    rcases hz2 with h0 | ⟨b, off, rfl, hlo, hcell⟩
    · omega
    obtain ⟨p0, p1⟩ := hcell k hk
    have d1 := Carries.of lo hal _ _ hlo p1
    try dsimp only at d1
    have t0 : (sgK r.sigs k != 1) = q := by rw [hq, decide_eq_false hr]; rfl
    clear hcell p0 p1 hq
    generalize sgK r.sigs k = kd at d1 t0
    go_enter Tryz.func139, Tryz.ntmps139
    go_wp2_with fail
    go_ret
    exact ⟨rfl, hal⟩

/-- a call returns ints of its own -/
def RetOi (w : World) (l : List Int) (e : Ending) (w' : World) : Prop := ∃ v, e = .returned v ∧ IntsOw w.heap.size w' v l ∧ Below w.heap.size w w'

end Go.Proofs.YtnmoocgocnjdjaaGreat

namespace Go.Proofs.YtnmoocgocnjdjaaGreat
open Go.RowKit

/-- an arc that leaves state k is an edge of signal s -/
def excAt (ls : List Ar) (k s : Int) (i : Nat) : Bool := decide (arF ls i = k ∧ arS ls i = s)
def excB (r : SgD) (k s : Int) : Bool := anyTo r.arcs.length (excAt r.arcs k s)
/-- IsExcited can be asked -/
def exOk (r : SgD) (k s : Int) : Bool := goodG r && decide ((0 ≤ k ∧ k < (r.codes.length : Int)) ∧ (0 ≤ s ∧ s < (r.sigs.length : Int)))
def exA (r : SgD) (k s : Int) : Bool := exOk r k s && excB r k s
theorem exOk_bad {r : SgD} {k s : Int} (h : goodG r = false) : exOk r k s = false ∧ exA r k s = false := by unfold exA exOk; rw [h]; exact ⟨rfl, rfl⟩
theorem exOk_out {r : SgD} {k s : Int} (h : ¬ ((0 ≤ k ∧ k < (r.codes.length : Int)) ∧ (0 ≤ s ∧ s < (r.sigs.length : Int)))) : exOk r k s = false ∧ exA r k s = false := by
  unfold exA exOk; rw [decide_eq_false h, Bool.and_false]; exact ⟨rfl, rfl⟩
theorem exOk_in {r : SgD} {k s : Int} (h : goodG r = true) (h2 : (0 ≤ k ∧ k < (r.codes.length : Int)) ∧ (0 ≤ s ∧ s < (r.sigs.length : Int))) : exOk r k s = true ∧ exA r k s = excB r k s := by
  unfold exA exOk; rw [h, decide_eq_true h2]; exact ⟨rfl, rfl⟩

end Go.Proofs.YtnmoocgocnjdjaaGreat

namespace Go.Proofs.YtnmoocgocnjdjaaGreat
open Go.RowKit

/-- an arc among the first j leaves state k by an edge of signal s, which counts -/
def exTo (r : SgD) (cnt : Int → Bool) (j k s : Nat) : Bool := anyTo j (fun i => excAt r.arcs (k : Int) (s : Int) i && cnt (arS r.arcs i))
theorem exTo_succ (r : SgD) (cnt : Int → Bool) (j k s : Nat) : exTo r cnt (j + 1) k s = (exTo r cnt j k s || (excAt r.arcs (k : Int) (s : Int) j && cnt (arS r.arcs j))) := by
  unfold exTo anyTo
  rw [List.range_succ, List.any_append]
  simp
theorem exTo_all (r : SgD) (cnt : Int → Bool) (k s : Nat) : exTo r cnt r.arcs.length k s = (excB r (k : Int) (s : Int) && cnt (s : Int)) := by
  unfold exTo excB anyTo
  rw [Bool.eq_iff_iff]
  simp only [List.any_eq_true, Bool.and_eq_true]
  constructor
  · rintro ⟨i, hi, h1, h2⟩
    have h3 : arF r.arcs i = (k : Int) ∧ arS r.arcs i = (s : Int) := of_decide_eq_true h1
    exact ⟨⟨i, hi, h1⟩, by rw [← h3.2]; exact h2⟩
  · rintro ⟨⟨i, hi, h1⟩, h2⟩
    have h3 : arF r.arcs i = (k : Int) ∧ arS r.arcs i = (s : Int) := of_decide_eq_true h1
    exact ⟨i, hi, h1, by rw [h3.2]; exact h2⟩
def exV (r : SgD) (cnt : Int → Bool) (j : Nat) : Nat → Value := fun x => .bool (exTo r cnt j (x / 8) (x % 8))
theorem exV_zero (r : SgD) (cnt : Int → Bool) : exV r cnt 0 = fun _ => .bool false := by funext x; rfl
theorem exV_no {r : SgD} {cnt : Int → Bool} {j : Nat} (h : cnt (arS r.arcs j) = false) : exV r cnt (j + 1) = exV r cnt j := by
  funext x
  unfold exV
  rw [exTo_succ, h, Bool.and_false, Bool.or_false]
theorem exV_yes {r : SgD} {cnt : Int → Bool} {j f s : Nat} (h : cnt (arS r.arcs j) = true) (hf : arF r.arcs j = (f : Int)) (hs : arS r.arcs j = (s : Int)) (h8 : s < 8) :
    (fun x => if x = f * 8 + s then Value.bool true else exV r cnt j x) = exV r cnt (j + 1) := by
  funext x
  by_cases e : x = f * 8 + s
  · rw [if_pos e]
    have e1 : x / 8 = f := by omega
    have e2 : x % 8 = s := by omega
    unfold exV
    rw [exTo_succ, e1, e2]
    have : excAt r.arcs (f : Int) (s : Int) j = true := decide_eq_true ⟨hf, hs⟩
    rw [this, h, Bool.and_self, Bool.or_true]
  · rw [if_neg e]
    unfold exV
    rw [exTo_succ]
    have : excAt r.arcs ((x / 8 : Nat) : Int) ((x % 8 : Nat) : Int) j = false := decide_eq_false (fun q => by
      have q1 := q.1; have q2 := q.2
      rw [hf] at q1; rw [hs] at q2
      omega)
    rw [this, Bool.false_and, Bool.or_false]

theorem Tryz.infoEx : (Tryz.prog.info? 198).map (fun i => (i.zero, i.size, i.bytes)) = some (some (.agg #[.bool false, .bool false, .bool false, .bool false, .bool false, .bool false, .bool false, .bool false]), 8, 8) := by kernel_rfl
def z8 : Array Value := #[.bool false, .bool false, .bool false, .bool false, .bool false, .bool false, .bool false, .bool false]
theorem run_make_exc (n : Nat) (hn : n ≤ 1048576) (w : World) :
    (Instr.makeSlice 195 (.int .i64 (n : Int)) (.int .i64 (n : Int))).run Tryz.prog w = .ok (.slice (some ⟨w.heap.size, 0, none⟩) n n) (w.alloc (.cells (madeCells z8 (n * 8)) 198)) := by
  obtain ⟨i, hi, hzz⟩ := Option.map_eq_some_iff.1 Tryz.infoEx
  simp only [Prod.mk.injEq] at hzz
  obtain ⟨hz, hs, hb⟩ := hzz
  have hr := run_make (P := Tryz.prog) w 195 198 i _ Tryz.underlying195 hi hz .i64 .i64 n n (by omega) (Int.le_refl _) (by rw [hb]; omega) (by omega)
  rw [hs] at hr
  exact hr
theorem rowIs_made8 (w : World) (n : Nat) (t : TypeId) : (w.alloc (.cells (madeCells z8 n) t)).rowIs w.heap.size t n (fun _ => .bool false) := by
  have h := World.rowIs_alloc w (madeCells z8 n) t (fun _ => .bool false) (fun i hi => by
    rw [size_madeCells] at hi
    have hm : i % 8 < 8 := Nat.mod_lt _ (by decide)
    have hz : ∀ m, m < 8 → z8[m]! = .bool false := by
      intro m hm
      match m, hm with
      | 0, _ => rfl
      | 1, _ => rfl
      | 2, _ => rfl
      | 3, _ => rfl
      | 4, _ => rfl
      | 5, _ => rfl
      | 6, _ => rfl
      | 7, _ => rfl
    simp [madeCells, hi]
    exact hz _ hm)
  rw [size_madeCells] at h
  exact h

set_option maxRecDepth 100000 in
set_option maxHeartbeats 4000000 in
theorem excitations_any (v : Value) (r : SgD) (cnt : Int → Bool) (Fc : Nat) (pv : Value) (w : World) (lo : Nat) (hv : SgAt lo w v r) (hs : SmallSg r)
    (hin : ∀ j, j < r.arcs.length → 0 ≤ arF r.arcs j ∧ arF r.arcs j < (r.codes.length : Int)) (hct : ∀ j, j < r.arcs.length → cnt (arS r.arcs j) = true → 0 ≤ arS r.arcs j ∧ arS r.arcs j < 8)
    (hF : ∀ (args : Array Value) (w : World), (callFunc Fc args).run Tryz.prog w = .ok (.enter Fc args) w)
    (hclo : ∀ x W, Below w.heap.size w W → Calls Tryz.prog Fc #[pv, .int .i64 x] W (RetB W (cnt x))) :
    Calls Tryz.prog 150 #[v, .func (.func Fc) #[pv] #[]] w (fun e w' => ∃ b, e = .returned (.slice (some ⟨b, 0, none⟩) r.codes.length r.codes.length) ∧ w.heap.size ≤ b ∧ w'.rowIs b 198 (r.codes.length * 8) (exV r cnt r.arcs.length) ∧ Below w.heap.size w w') := by
  have KC := hs.2.1.1
  have KA := hs.2.2
  obtain ⟨a0, c0, a1, c1, a2, c2, rfl, h_0, h_1, h_2⟩ := hv.form
  clear hv h_0 h_1 hs
  obtain ⟨ao, cap, hvv, hc, hz⟩ := h_2
  injection hvv with e1 e2 e3
  subst e1; subst e3; clear e2
  have HZ := Lib.hid hz; clear hz
  have HIN := Lib.hid hin; clear hin
  have HCT := Lib.hid hct; clear hct
  have HCL := Lib.hid hclo; clear hclo
  obtain ⟨ng, hng⟩ : ∃ n, n = r.sigs.length := ⟨_, rfl⟩
  obtain ⟨nc, hnc⟩ : ∃ n, n = r.codes.length := ⟨_, rfl⟩
  obtain ⟨na, hna⟩ : ∃ n, n = r.arcs.length := ⟨_, rfl⟩
  rw [← hnc] at KC HIN
  rw [← hna] at KA HIN HCT HZ
  rw [← hng, ← hnc, ← hna]
  clear hng hnc hna
  have hmk := run_make_exc nc KC
  have x1 : (w.alloc (.cells #[.slice a0 ng c0, .slice a1 nc c1, .slice a2 na c2] 80)).cell? ⟨w.heap.size, 1, none⟩ = some (.slice a1 nc c1) := by simp
  have x2 : (w.alloc (.cells #[.slice a0 ng c0, .slice a1 nc c1, .slice a2 na c2] 80)).cell? ⟨w.heap.size, 2, none⟩ = some (.slice a2 na c2) := by simp
  have hal : Below w.heap.size w (w.alloc (.cells #[.slice a0 ng c0, .slice a1 nc c1, .slice a2 na c2] 80)) := (Below.refl _ _).alloc (Nat.le_refl _) _
  obtain ⟨W, hWe⟩ : ∃ W, W = w.alloc (.cells #[.slice a0 ng c0, .slice a1 nc c1, .slice a2 na c2] 80) := ⟨_, rfl⟩
  have x2a : (W.alloc (.cells (madeCells z8 (nc * 8)) 198)).cell? ⟨w.heap.size, 2, none⟩ = some (.slice a2 na c2) := by
    have h := x2
    rw [← hWe] at h
    exact cell_carry h (Carries.of 0 ((Below.refl _ _).alloc (Nat.le_refl _) _))
  rw [hWe] at x2a
  go_enter Tryz.func150, Tryz.ntmps150
  go_wp2_with fail
  have hrow := rowIs_made8 (w.alloc (.cells #[.slice a0 ng c0, .slice a1 nc c1, .slice a2 na c2] 80)) (nc * 8) 198
  have hbW : Below w.heap.size w ((w.alloc (.cells #[.slice a0 ng c0, .slice a1 nc c1, .slice a2 na c2] 80)).alloc (.cells (madeCells z8 (nc * 8)) 198)) := hal.alloc hal.size _
  have zB : w.heap.size < ((w.alloc (.cells #[.slice a0 ng c0, .slice a1 nc c1, .slice a2 na c2] 80)).alloc (.cells (madeCells z8 (nc * 8)) 198)).heap.size := by simp; omega
  generalize (w.alloc (.cells #[.slice a0 ng c0, .slice a1 nc c1, .slice a2 na c2] 80)).alloc (.cells (madeCells z8 (nc * 8)) 198) = W1 at hrow hbW zB ⊢
  have hge : w.heap.size ≤ (w.alloc (.cells #[.slice a0 ng c0, .slice a1 nc c1, .slice a2 na c2] 80)).heap.size := hal.size
  have hsz : (w.alloc (.cells #[.slice a0 ng c0, .slice a1 nc c1, .slice a2 na c2] 80)).heap.size = w.heap.size + 1 := by simp
  rw [hsz] at hrow hge
  clear hsz x1 x2 hal hWe hmk x2a W
  obtain ⟨b0, hb0⟩ : ∃ b, b = w.heap.size + 1 := ⟨_, rfl⟩
  rw [← hb0] at hrow hge ⊢
  clear hb0
  rw [← exV_zero r cnt] at hrow
  go_loopw [15] (fun i wr => ∃ j : Nat, j ≤ na ∧ i = .int .i64 j ∧ Hid (wr.rowIs b0 198 (nc * 8) (exV r cnt j)) ∧ Below w.heap.size w wr) (fun i _ => na - (intOf i).toNat)
  case atStart => exact ⟨0, Nat.zero_le _, rfl, hrow, hbW⟩
  case round =>
    obtain ⟨j, hj, rfl, HR, hb1⟩ := hrel
    have zr := hb1.size
    by_cases hlt : j < na
    · rcases HZ.out with h0 | ⟨b, off, rfl, hlo, hcell⟩
      · omega
      obtain ⟨p0, p1, p2, p3⟩ := hcell j hlt
      have d0 := Carries.of lo hb1 _ _ hlo p0
      have d1 := Carries.of lo hb1 _ _ hlo p1
      have d2 := Carries.of lo hb1 _ _ hlo p2
      have d3 := Carries.of lo hb1 _ _ hlo p3
      have hin := HIN.out j hlt
      have hct := HCT.out j hlt
      have HNO := Lib.hid (fun h => exV_no (r := r) (cnt := cnt) (j := j) h)
      have HYES := Lib.hid (fun f s h hf hs h8 => exV_yes (r := r) (cnt := cnt) (j := j) (f := f) (s := s) h hf hs h8)
      clear hcell p0 p1 p2 p3
      try dsimp only at d0 d1 d2 d3
      generalize arF r.arcs j = f1 at d0 hin HYES
      generalize arS r.arcs j = s1 at d1 hct HNO HYES
      generalize arU r.arcs j = u1 at d2
      generalize arT r.arcs j = t1 at d3
      have HCT1 := Lib.hid hct; clear hct
      obtain ⟨f, rfl⟩ := Int.eq_ofNat_of_zero_le hin.1
      have hfn : f < nc := by omega
      go_wp2_with fail
      have hba : Below wr.heap.size wr (wr.alloc (.cells #[.int .i64 (f : Int), .int .i64 s1, .bool u1, .int .i64 t1] 138)) := (Below.refl _ _).alloc (Nat.le_refl _) _
      have y0 : (wr.alloc (.cells #[.int .i64 (f : Int), .int .i64 s1, .bool u1, .int .i64 t1] 138)).cell? ⟨wr.heap.size, 0, none⟩ = some (.int .i64 (f : Int)) := by simp
      have y1 : (wr.alloc (.cells #[.int .i64 (f : Int), .int .i64 s1, .bool u1, .int .i64 t1] 138)).cell? ⟨wr.heap.size, 1, none⟩ = some (.int .i64 s1) := by simp
      generalize wr.alloc (.cells #[.int .i64 (f : Int), .int .i64 s1, .bool u1, .int .i64 t1] 138) = wa at hba y0 y1 ⊢
      have hb2 : Below w.heap.size w wa := hb1.trans (hba.mono zr)
      refine (HCL.out s1 wa hb2).mono ?_
      rintro e W3 ⟨rfl, hb⟩
      have hb3 : Below w.heap.size w W3 := hb2.trans (hb.mono hb2.size)
      have y0 := cell_carry y0 (Carries.of 0 hb)
      have y1 := cell_carry y1 (Carries.of 0 hb)
      have hbb := hba.trans (hb.mono hba.size)
      have HR3 := Lib.hid (HR.out.of_block (hbb.block _ HR.out.lt))
      clear hba hb hbb HR d0 d1 d2 d3
      cases hk : cnt s1 with
      | false =>
        have HR4 := Lib.hid (show W3.rowIs b0 198 (nc * 8) (exV r cnt (j + 1)) by rw [HNO.out hk]; exact HR3.out)
        clear hk
        go_wp2_with fail
        go_roundw
        case rel => exact ⟨j + 1, by omega, by go_num, HR4, hb3⟩
        case measure => simp [intOf]; omega
      | true =>
        obtain ⟨h1, h2⟩ := HCT1.out hk
        obtain ⟨s, rfl⟩ := Int.eq_ofNat_of_zero_le h1
        have hs8 : s < 8 := by omega
        have hix : f * 8 + s < nc * 8 := by omega
        have r0 := HR3.out.cell hix
        have r1 := HR3.out.frozen (f * 8 + s)
        have HYE := Lib.hid (HYES.out f s hk rfl rfl hs8)
        unfold exV at r0
        go_wp2_with fail
        go_region
        have hb5 : Below w.heap.size w (W3.setCell ⟨b0, f * 8 + s, none⟩ (.bool true)) := hb3.setCell (p := ⟨b0, f * 8 + s, none⟩) (by omega) _
        have HR4 := Lib.hid (show (W3.setCell ⟨b0, f * 8 + s, none⟩ (.bool true)).rowIs b0 198 (nc * 8) (exV r cnt (j + 1)) by
          have h := HR3.out.set (f * 8 + s) (.bool true)
          rw [HYE.out] at h; exact h)
        clear HR3 r0 r1 y0 y1 hk HYE
        go_wp2_with fail
        go_roundw
        case rel => exact ⟨j + 1, by omega, by go_num, HR4.out.drew, hb5.drew⟩
        case measure => simp [intOf]; omega
    · obtain rfl : j = na := by omega
      go_wp2_with fail
      go_ret
      exact ⟨b0, rfl, by omega, HR.out, hb1⟩

end Go.Proofs.YtnmoocgocnjdjaaGreat
