/- WALKS: l6Word, l6Trace of the model; the model's text is the program's.
   WALK: l6Trace of the model.
   ARCS COMPARED by the program: '==' of arcs; slices.Index, slices.Contains of an arc; hasTrace.
   WALK: FormatTrace of the program.
   WALKS: toSTG once more (what may be written in its answer), markSignalS, markLabelS, markSTG. -/
import Derived.Test.YtnmoocgocnjdjaaGreatVFtb
import Derived.Test.YtnmoocgocnjdjaaGreatVSgk
import Derived.Test.YtnmoocgocnjdjaaGreatVSgv
import Derived.Test.YtnmoocgocnjdjaaGreatVMtext
namespace Go.Proofs.YtnmoocgocnjdjaaGreat
open Go.RowKit

/-- the first k words, a space between -/
def trTo (ss : List Sig) (L : List Ar) : Nat → ByteArray
  | 0 => ⟨#[]⟩
  | k + 1 => (if k = 0 then trTo ss L k else trTo ss L k ++ ⟨#[32]⟩) ++ stN (trW ss L) k
theorem ba_data_append (a b : ByteArray) : (a ++ b).data.toList = a.data.toList ++ b.data.toList := by
  rw [ByteArray.data_append]; simp
theorem join_snoc (xs : List (List UInt8)) (y : List UInt8) (h : xs ≠ []) : Lib.join (xs ++ [y]) [32] = Lib.join xs [32] ++ [32] ++ y := by
  cases xs with
  | nil => exact absurd rfl h
  | cons x r =>
    rw [List.cons_append, Lib.join_cons, Lib.join_cons]
    unfold Lib.joinTail
    simp [List.map_append]
theorem trTo_data (ss : List Sig) (L : List Ar) : ∀ k, k ≤ L.length → (trTo ss L k).data.toList = Lib.join (((trW ss L).take k).map (·.data.toList)) [32]
  | 0, _ => by simp [trTo, Lib.join_nil]
  | k + 1, h => by
    have ih := trTo_data ss L k (by omega)
    have hk : k < (trW ss L).length := by rw [trW_length]; omega
    have ht : (trW ss L).take (k + 1) = (trW ss L).take k ++ [(trW ss L)[k]] := List.take_succ_eq_append_getElem hk
    show (_ ++ stN (trW ss L) k).data.toList = _
    rw [ba_data_append, stN_getD hk, ht, List.map_append]
    simp only [List.map_cons, List.map_nil]
    by_cases h0 : k = 0
    · subst h0
      simp [trTo, Lib.join_one]
    · rw [if_neg h0, ba_data_append, ih, join_snoc]
      intro e
      have := congrArg List.length e
      simp only [List.length_map, List.length_take, List.length_nil] at this
      omega
theorem trTo_all (ss : List Sig) (L : List Ar) : trTo ss L L.length = trT ss L := by
  have h := trTo_data ss L L.length (Nat.le_refl _)
  have e : (trW ss L).take L.length = trW ss L := List.take_of_length_le (by rw [trW_length]; exact Nat.le_refl _)
  rw [e] at h
  unfold trT
  rw [← h]
theorem trTo_size {ss : List Sig} {L : List Ar} (hs : SmallSigs ss) (hin : LabsIn ss.length L) : ∀ k, k ≤ L.length → (trTo ss L k).size ≤ k * 1048578
  | 0, _ => Nat.zero_le _
  | k + 1, h => by
    have ih := trTo_size hs hin k (by omega)
    have hk : k < L.length := by omega
    have h2 : (stN (trW ss L) k).size ≤ 1048577 := by rw [trW_get hk]; exact wordL_size hs (hin k hk)
    show (_ ++ stN (trW ss L) k).size ≤ _
    rw [ByteArray.size_append, Nat.succ_mul]
    split
    · omega
    · rw [ByteArray.size_append]
      have : (⟨#[32]⟩ : ByteArray).size = 1 := rfl
      omega

set_option maxRecDepth 100000 in
set_option maxHeartbeats 1000000 in
theorem l6Word_any (v : Value) (r : SgD) (f a : Int) (u : Bool) (t : Int) (w : World) (lo : Nat) (hv : SgAt lo w v r) (hs : SmallSg r) (hin : LabIn r.sigs.length a u) :
    Calls Tryz.prog 140 #[v, .agg #[.int .i64 f, .int .i64 a, .bool u, .int .i64 t]] w (RetV w (.string (wordL r.sigs a u))) := by
  obtain ⟨a0, c0, a1, c1, a2, c2, rfl, h_0, hm, h_2⟩ := hv.form
  clear hv hm h_2
  obtain ⟨ss, cs, C⟩ := r
  obtain ⟨k0, k1, k2⟩ := hs
  simp only at h_0 k0 hin ⊢
  clear k1 k2
  obtain ⟨ao, cap, e0, hc, hz⟩ := h_0
  injection e0 with e1 e2 e3
  subst e1; subst e3; clear e2
  generalize cs.length = n1
  generalize C.length = n2
  obtain ⟨R, hR⟩ : ∃ x, x = wordL ss a u := ⟨_, rfl⟩
  rw [← hR]
  have HR := Lib.hid hR; clear hR
  have HF := Lib.hid hz; clear hz
  have HS := Lib.hid k0.2
  have hsl := k0.1
  clear k0
  rcases hin with ⟨h0, h1⟩ | ⟨rfl, rfl⟩
  · obtain ⟨k, rfl⟩ : ∃ k : Nat, a = (k : Int) := ⟨a.toNat, by omega⟩
    have hk : k < ss.length := by omega
    rcases HF.out with h | ⟨b, off, rfl, hlo, hcell⟩
    · omega
    have d0 := (hcell k hk).1
    have zb : b < w.heap.size := by have := cell_old d0; simpa using this
    try dsimp only at d0
    have hsz := HS.out k hk
    clear hcell
    have e := HR.out
    cases u with
    | true =>
      rw [wordL_up] at e
      generalize sgN ss k = nm at d0 hsz e
      subst e
      go_enter Tryz.func140, Tryz.ntmps140
      go_wp2_with fail
      go_ret
      exact ⟨rfl, by (repeat' (first | (with_reducible exact Below.refl _ _) | (with_reducible assumption) | (with_reducible refine Below.alloc ?_ ?_ _) | (with_reducible refine Below.drew ?_) | (with_reducible refine below_drewN ?_ _) | (with_reducible refine Below.setCell ?_ ?_ _) | go_size))⟩
    | false =>
      rw [wordL_down] at e
      generalize sgN ss k = nm at d0 hsz e
      subst e
      go_enter Tryz.func140, Tryz.ntmps140
      go_wp2_with fail
      go_ret
      exact ⟨rfl, by (repeat' (first | (with_reducible exact Below.refl _ _) | (with_reducible assumption) | (with_reducible refine Below.alloc ?_ ?_ _) | (with_reducible refine Below.drew ?_) | (with_reducible refine below_drewN ?_ _) | (with_reducible refine Below.setCell ?_ ?_ _) | go_size))⟩
  · have e := HR.out
    rw [wordL_none (by omega)] at e
    subst e
    go_enter Tryz.func140, Tryz.ntmps140
    go_wp2_with fail
    go_ret
    exact ⟨rfl, by (repeat' (first | (with_reducible exact Below.refl _ _) | (with_reducible assumption) | (with_reducible refine Below.alloc ?_ ?_ _) | (with_reducible refine Below.drew ?_) | (with_reducible refine below_drewN ?_ _) | (with_reducible refine Below.setCell ?_ ?_ _) | go_size))⟩

end Go.Proofs.YtnmoocgocnjdjaaGreat

namespace Go.Proofs.YtnmoocgocnjdjaaGreat
open Go.RowKit

set_option maxRecDepth 100000 in
set_option maxHeartbeats 2000000 in
theorem l6Trace_any (v vl : Value) (r : SgD) (L : List Ar) (w : World) (lo lo' : Nat) (hv : SgAt lo w v r) (hvl : ArcsAt lo' w vl L) (hs : SmallSg r) (hl : L.length ≤ 4001) (hin : LabsIn r.sigs.length L) :
    Calls Tryz.prog 86 #[v, vl] w (RetV w (.string (trT r.sigs L))) := by
  have HV := Lib.hid hv
  obtain ⟨a0, c0, a1, c1, a2, c2, rfl, _, _, _⟩ := hv.form
  clear hv
  have HS := Lib.hid hs
  have K0 := Lib.hid hs.1
  clear hs
  have HIN := Lib.hid hin; clear hin
  obtain ⟨ao, cap, rfl, hc, hz⟩ := hvl
  have HF := Lib.hid hz; clear hz
  obtain ⟨n0, hn0⟩ : ∃ x, x = r.sigs.length := ⟨_, rfl⟩
  obtain ⟨n1, hn1⟩ : ∃ x, x = r.codes.length := ⟨_, rfl⟩
  obtain ⟨n2, hn2⟩ : ∃ x, x = r.arcs.length := ⟨_, rfl⟩
  rw [← hn0, ← hn1, ← hn2] at HV ⊢
  clear hn0 hn1 hn2
  obtain ⟨T, hT⟩ : ∃ T : Nat → ByteArray, T = trTo r.sigs L := ⟨_, rfl⟩
  have HT := Lib.hid hT
  have e : trT r.sigs L = T L.length := by rw [hT, trTo_all]
  rw [e]; clear e hT
  go_enter Tryz.func86, Tryz.ntmps86
  go_wp2_with fail
  go_loopw [5, 10] (fun sv i wr => ∃ k : Nat, k ≤ L.length ∧ i = .int .i64 k ∧ sv = .string (T k) ∧ Below w.heap.size w wr ∧ w.heap.size < wr.heap.size ∧ wr.cell? ⟨w.heap.size, 0, none⟩ = some (.slice a0 n0 c0) ∧ wr.cell? ⟨w.heap.size, 1, none⟩ = some (.slice a1 n1 c1) ∧ wr.cell? ⟨w.heap.size, 2, none⟩ = some (.slice a2 n2 c2)) (fun _ i _ => L.length - (intOf i).toNat)
  case atStart => exact ⟨0, Nat.zero_le _, rfl, by rw [HT.out]; rfl, (Below.refl _ _).alloc (Nat.le_refl _) _, by simp, by simp, by simp, by simp⟩
  case round =>
    obtain ⟨k, hk, rfl, rfl, hw1, z1, x0, x1, x2⟩ := hrel
    by_cases hlt : k < L.length
    · rcases HF.out with h0 | ⟨b, off, rfl, hlo, hcell⟩
      · omega
      obtain ⟨q0, q1, q2, q3⟩ := hcell k hlt
      have d0 := Carries.of lo' hw1 _ _ hlo q0
      have d1 := Carries.of lo' hw1 _ _ hlo q1
      have d2 := Carries.of lo' hw1 _ _ hlo q2
      have d3 := Carries.of lo' hw1 _ _ hlo q3
      clear hcell q0 q1 q2 q3
      have HLI := Lib.hid (HIN.out k hlt)
      have HTW := Lib.hid (trW_get (ss := r.sigs) hlt)
      have hz0 : (T k).size ≤ 4195360578 := by
        have := trTo_size K0.out HIN.out k hk
        rw [HT.out]
        have : k * 1048578 ≤ 4001 * 1048578 := Nat.mul_le_mul_right _ (by omega)
        omega
      have hzw : (wordL r.sigs (arS L k) (arU L k)).size ≤ 1048577 := wordL_size K0.out HLI.out
      have hstep : T (k + 1) = (if k = 0 then T k else T k ++ ⟨#[32]⟩) ++ wordL r.sigs (arS L k) (arU L k) := by rw [HT.out, ← HTW.out]; rfl
      have HST := Lib.hid hstep; clear hstep HTW
      try dsimp only at d0 d1 d2 d3
      generalize arF L k = e0 at d0
      generalize arS L k = e1 at d1 HLI HST hzw
      generalize arU L k = e2 at d2 HLI HST hzw
      generalize arT L k = e3 at d3
      have x0A := cell_carry x0 (Carries.alloc (Carries.refl 0 wr) (.cells #[.int .i64 e0, .int .i64 e1, .bool e2, .int .i64 e3] 138))
      have x1A := cell_carry x1 (Carries.alloc (Carries.refl 0 wr) (.cells #[.int .i64 e0, .int .i64 e1, .bool e2, .int .i64 e3] 138))
      have x2A := cell_carry x2 (Carries.alloc (Carries.refl 0 wr) (.cells #[.int .i64 e0, .int .i64 e1, .bool e2, .int .i64 e3] 138))
      have hsz1 : (T k ++ ⟨#[32]⟩).size = (T k).size + 1 := by rw [ByteArray.size_append]; rfl
      by_cases hk0 : k = 0
      · have hst := HST.out
        rw [if_pos hk0] at hst
        have HS2 := Lib.hid hst; clear hst
        have hkp : ¬ (0 : Int) < (k : Int) := by omega
        clear hk0
        go_wp2_with fail
        refine (l6Word_any _ r e0 e1 e2 e3 _ lo (HV.out.keep (Carries.of lo (hw1.alloc hw1.size _))) HS.out HLI.out).mono ?_
        rintro e w2 ⟨rfl, hb⟩
        have hw2 : Below w.heap.size w w2 := (hw1.alloc hw1.size _).trans (hb.mono (by simp; omega))
        have x0 := cell_carry x0A (Carries.of 0 hb)
        have x1 := cell_carry x1A (Carries.of 0 hb)
        have x2 := cell_carry x2A (Carries.of 0 hb)
        have z2 : w.heap.size < w2.heap.size := by have := hb.size; simp at this; omega
        clear hb d0 d1 d2 d3
        go_wp2_with fail
        go_roundw
        case rel => exact ⟨k + 1, by omega, by go_num, by rw [HS2.out], hw2, z2, x0, x1, x2⟩
        case measure => simp [intOf]; omega
      · have hst := HST.out
        rw [if_neg hk0] at hst
        have HS2 := Lib.hid hst; clear hst
        have hkp : (0 : Int) < (k : Int) := by omega
        clear hk0
        go_wp2_with fail
        refine (l6Word_any _ r e0 e1 e2 e3 _ lo (HV.out.keep (Carries.of lo (hw1.alloc hw1.size _))) HS.out HLI.out).mono ?_
        rintro e w2 ⟨rfl, hb⟩
        have hw2 : Below w.heap.size w w2 := (hw1.alloc hw1.size _).trans (hb.mono (by simp; omega))
        have x0 := cell_carry x0A (Carries.of 0 hb)
        have x1 := cell_carry x1A (Carries.of 0 hb)
        have x2 := cell_carry x2A (Carries.of 0 hb)
        have z2 : w.heap.size < w2.heap.size := by have := hb.size; simp at this; omega
        clear hb d0 d1 d2 d3
        go_wp2_with fail
        go_roundw
        case rel => exact ⟨k + 1, by omega, by go_num, by rw [HS2.out], hw2, z2, x0, x1, x2⟩
        case measure => simp [intOf]; omega
    · have hkk : k = L.length := by omega
      subst hkk
      go_wp2_with fail
      go_ret
      exact ⟨rfl, hw1⟩

end Go.Proofs.YtnmoocgocnjdjaaGreat

namespace Go.Proofs.YtnmoocgocnjdjaaGreat
open Go.RowKit

theorem eqlArc_run (f s t f' s' t' : Int) (u u' : Bool) (w : World) :
    (binOp .eql 138 (.agg #[.int .i64 f, .int .i64 s, .bool u, .int .i64 t]) (.agg #[.int .i64 f', .int .i64 s', .bool u', .int .i64 t'])).run Tryz.prog w = .ok (.bool (decide ((f, s, u, t) = (f', s', u', t')))) w := by
  by_cases h1 : f = f'
  · by_cases h2 : s = s'
    · by_cases h3 : u = u'
      · by_cases h4 : t = t'
        · subst h1; subst h2; subst h3; subst h4
          simp [go_sem]
        · subst h1; subst h2; subst h3
          have e : (t == t') = false := by simpa using h4
          simp [go_sem, e, h4]
      · subst h1; subst h2
        have e : (u == u') = false := by simpa using h3
        simp [go_sem, e, h3]
    · subst h1
      have e : (s == s') = false := by simpa using h2
      simp [go_sem, e, h2]
  · have e : (f == f') = false := by simpa using h1
    simp [go_sem, e, h1]

/-- arc k is this one -/
def arIs (C : List Ar) (f s : Int) (u : Bool) (t : Int) (k : Nat) : Bool := decide ((f, s, u, t) = (arF C k, arS C k, arU C k, arT C k))

/-- where the walk of k arcs ends -/
def trAt (L : List Ar) (k : Nat) : Int := if k = 0 then 0 else arT L (k - 1)
/-- arc k of the walk goes on, and is one of the graph -/
def trIs (C L : List Ar) (k : Nat) : Bool := decide (arF L k = trAt L k) && anyTo C.length (arIs C (arF L k) (arS L k) (arU L k) (arT L k))
def trB (C L : List Ar) : Bool := (List.range L.length).all (trIs C L)
theorem trB_no {C L : List Ar} {k : Nat} (hk : k < L.length) (h : trIs C L k = false) : trB C L = false := by
  unfold trB
  rw [Bool.eq_false_iff]
  intro ha
  have := (List.all_eq_true.1 ha) k (List.mem_range.2 hk)
  rw [h] at this
  cases this
theorem trB_yes {C L : List Ar} (h : ∀ k, k < L.length → trIs C L k = true) : trB C L = true :=
  List.all_eq_true.2 fun k hk => h k (List.mem_range.1 hk)
theorem trB_get {C L : List Ar} (h : trB C L = true) {k : Nat} (hk : k < L.length) : trIs C L k = true := (List.all_eq_true.1 h) k (List.mem_range.2 hk)

end Go.Proofs.YtnmoocgocnjdjaaGreat

namespace Go.Proofs.YtnmoocgocnjdjaaGreat
open Go.RowKit

/-- a walk from state 0 through a valid graph, of at most 4000 arcs -/
def ftB (r : SgD) (L : List Ar) : Bool := goodG r && (decide (L.length ≤ 4000) && trB r.arcs L)
def ftS (r : SgD) (L : List Ar) : ByteArray := if ftB r L = true then trT r.sigs L else ⟨#[]⟩
theorem ftS_no {r : SgD} {L : List Ar} (h : ftB r L = false) : ftS r L = ⟨#[]⟩ := by unfold ftS; rw [h]; rfl
theorem ftS_yes {r : SgD} {L : List Ar} (h : ftB r L = true) : ftS r L = trT r.sigs L := by unfold ftS; rw [h]; rfl
theorem anyTo_get {n : Nat} {g : Nat → Bool} (h : anyTo n g = true) : ∃ k, k < n ∧ g k = true := by
  unfold anyTo at h
  rw [List.any_eq_true] at h
  obtain ⟨k, hk, hg⟩ := h
  exact ⟨k, by simpa using hk, hg⟩
theorem tr_labs {r : SgD} {L : List Ar} (hg : goodG r = true) (ht : trB r.arcs L = true) : LabsIn r.sigs.length L := by
  intro k hk
  have h := trB_get ht hk
  unfold trIs at h
  simp only [Bool.and_eq_true] at h
  obtain ⟨j, hj, he⟩ := anyTo_get h.2
  unfold arIs at he
  have he := of_decide_eq_true he
  simp only [Prod.mk.injEq] at he
  have hv := arcV_lab (arcsB_at (goodG_get hg).2.2.2.1 hj)
  rw [← he.2.1, ← he.2.2.1] at hv
  exact labV_labIn hv

/-- a call returns this text, and this bool -/
def RetTx (w : World) (s : ByteArray) (b : Bool) (e : Ending) (w' : World) : Prop := e = .returned (.tuple #[.string s, .bool b]) ∧ Below w.heap.size w w'

end Go.Proofs.YtnmoocgocnjdjaaGreat

namespace Go.Proofs.YtnmoocgocnjdjaaGreat
open Go.RowKit

set_option maxHeartbeats 400000 in
theorem toSignalS_row (v : Value) (ss : List Sig) (w : World) (lo : Nat) (hv : SigsAt lo w v ss) (hn : ss.length ≤ 1048576) :
    Calls Tryz.prog 88 #[v] w (fun e w' => ∃ b, e = .returned (.slice (some ⟨b, 0, none⟩) ss.length ss.length) ∧ w.heap.size ≤ b ∧ b < w'.heap.size ∧ PairRow b 190 w' ss.length ss.length (fun i => .string (sgN ss i)) (fun i => .int .i64 (sgK ss i)) ∧ Below w.heap.size w w') := by
  obtain ⟨ao, cap, rfl, hc, hz⟩ := hv
  have hmk := run_make_sigs ss.length hn
  have HF := Lib.hid hz; clear hz
  go_enter Tryz.func88, Tryz.ntmps88
  go_wp2
  go_loopw [4] (fun i wr => ∃ k : Nat, k ≤ ss.length ∧ i = .int .i64 k ∧ PairRow w.heap.size 190 wr ss.length k (fun i => .string (sgN ss i)) (fun i => .int .i64 (sgK ss i)) ∧ Below w.heap.size w wr ∧ w.heap.size < wr.heap.size) (fun i _ => ss.length - (intOf i).toNat)
  case atStart =>
    obtain ⟨f, hf⟩ := rowIs_size (w := w) (t := 190) (size_madeCells #[.string ByteArray.empty, .int .i64 0] (ss.length * 2))
    exact ⟨0, Nat.zero_le _, rfl, ⟨f, hf, fun i hi => absurd hi (Nat.not_lt_zero _)⟩, (Below.refl _ _).alloc (Nat.le_refl _) _, by simp⟩
  case round =>
    obtain ⟨k, hk, rfl, hrow, hb1, hz1⟩ := hrel
    by_cases hlt : k < ss.length
    · rcases HF.out with h0 | ⟨b, off, rfl, hlo, hcell⟩
      · omega
      obtain ⟨c0, c1⟩ := hcell k hlt
      have d0 := Carries.of lo hb1 _ _ hlo c0
      have d1 := Carries.of lo hb1 _ _ hlo c1
      have HR := Lib.hid hrow
      clear hcell c0 c1 hrow
      go_wp2_with fail
      refine (toSignal_any _ _ _).mono ?_
      rintro e w1 ⟨rfl, hb2⟩
      have hrow1 := HR.out.keep (hb2.block _ hz1)
      obtain ⟨y0, y1, e0, e1, f0, f1⟩ := hrow1.cells hlt
      have HR1 := Lib.hid hrow1
      have hz2 : w.heap.size < w1.heap.size := by have := hb2.size; omega
      have hw1 : Below w.heap.size w w1 := hb1.trans (hb2.mono (by omega))
      clear hrow1
      go_wp2_with fail
      go_roundw
      case rel => exact ⟨k + 1, by omega, by go_num, HR1.out.put hlt rfl rfl, by (repeat' (first | (with_reducible exact Below.refl _ _) | (with_reducible assumption) | (with_reducible refine Below.alloc ?_ ?_ _) | (with_reducible refine Below.drew ?_) | (with_reducible refine below_drewN ?_ _) | (with_reducible refine Below.setCell ?_ ?_ _) | go_size)), by simpa using hz2⟩
      case measure => simp [intOf]; omega
    · have hkk : k = ss.length := by omega
      subst hkk
      have HR := Lib.hid hrow; clear hrow
      go_wp2
      go_ret
      exact ⟨_, rfl, Nat.le_refl _, hz1, HR.out, hb1⟩

/-- an answer of toSTG: what it reads as; its parts lie one behind the other, and may be written -/
def StgOw (B : Nat) (w : World) (v : Value) (s : StgD) : Prop :=
  ∃ (wN : World) (l m : Nat) (vt vs vl : Value), v = .agg #[.int .i64 s.net.places, vt, vs, vl, .string s.start] ∧ B ≤ l ∧ l ≤ wN.heap.size ∧ wN.heap.size ≤ m ∧ m ≤ w.heap.size ∧
    NetOw l wN (.agg #[.int .i64 s.net.places, vt]) s.net ∧ Same l wN w ∧ PairBox wN.heap.size m w vs s.sigs.length ∧ PairBox m w.heap.size w vl s.labs.length ∧ StgAt B w v s

end Go.Proofs.YtnmoocgocnjdjaaGreat
