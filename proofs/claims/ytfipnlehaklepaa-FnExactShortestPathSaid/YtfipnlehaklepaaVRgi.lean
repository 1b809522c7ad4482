/- WALKS: slices.Index of strings, hasMarking, isReachabilityGraph of the program (a set of marks; a closure that is handed to slices.ContainsFunc). -/
import Derived.Test.YtfipnlehaklepaaVRgs
import Derived.Maps.OwnSet
import Derived.StringKeys
namespace Go.Proofs.Ytfipnlehaklepaa
open Go.RowKit Go.Maps

set_option maxRecDepth 100000 in
set_option maxHeartbeats 400000 in
theorem hasMarking_any (a0 a1 : Option Addr) (n c0 m c1 : Nat) (k : Int) (w : World) (hn : n ≤ 1048576) :
    Calls Try.prog 91 #[.agg #[.slice a0 n c0, .slice a1 m c1], .int .i64 k] w (RetB w (decide (0 ≤ k ∧ k < n))) := by
  by_cases h1 : 0 ≤ k
  · by_cases h2 : k < n
    · rw [decide_eq_true (⟨h1, h2⟩ : 0 ≤ k ∧ k < n)]
      go_enter Try.func91, Try.ntmps91
      go_wp2_with fail
      go_ret
      exact ⟨rfl, by (repeat' (first | (with_reducible exact Below.refl _ _) | (with_reducible assumption) | (with_reducible refine Below.alloc ?_ ?_ _) | (with_reducible refine Below.drew ?_) | (with_reducible refine below_drewN ?_ _) | (with_reducible refine Below.setCell ?_ ?_ _) | go_size))⟩
    · rw [decide_eq_false (fun h => h2 h.2 : ¬ (0 ≤ k ∧ k < n))]
      go_enter Try.func91, Try.ntmps91
      go_wp2_with fail
      go_ret
      exact ⟨rfl, by (repeat' (first | (with_reducible exact Below.refl _ _) | (with_reducible assumption) | (with_reducible refine Below.alloc ?_ ?_ _) | (with_reducible refine Below.drew ?_) | (with_reducible refine below_drewN ?_ _) | (with_reducible refine Below.setCell ?_ ?_ _) | go_size))⟩
  · rw [decide_eq_false (fun h => h1 h.1 : ¬ (0 ≤ k ∧ k < n))]
    go_enter Try.func91, Try.ntmps91
    go_wp2_with fail
    go_ret
    exact ⟨rfl, by (repeat' (first | (with_reducible exact Below.refl _ _) | (with_reducible assumption) | (with_reducible refine Below.alloc ?_ ?_ _) | (with_reducible refine Below.drew ?_) | (with_reducible refine below_drewN ?_ _) | (with_reducible refine Below.setCell ?_ ?_ _) | go_size))⟩

set_option maxRecDepth 100000 in
set_option maxHeartbeats 1000000 in
theorem reachClo_any (f b t : Int) (B : Nat) (a0 a1 : Option Addr) (n c0 m c1 : Nat) (w : World) (hn : n ≤ 1048576) (x0 : w.cell? ⟨B, 0, none⟩ = some (.slice a0 n c0)) (x1 : w.cell? ⟨B, 1, none⟩ = some (.slice a1 m c1)) :
    Calls Try.prog 136 #[.agg #[.int .i64 f, .int .i64 b, .int .i64 t], .pointer (some ⟨B, 0, none⟩)] w (RetB w (!decide ((0 ≤ f ∧ f < n) ∧ (0 ≤ t ∧ t < n) ∧ (0 ≤ b ∧ b < 24)))) := by
  obtain ⟨g, hg⟩ : ∃ g, g = !decide ((0 ≤ f ∧ f < n) ∧ (0 ≤ t ∧ t < n) ∧ (0 ≤ b ∧ b < 24)) := ⟨_, rfl⟩
  rw [← hg]
  have HG := Lib.hid hg; clear hg
  have zB : B < w.heap.size := cell_old x0
  go_enter Try.func136, Try.ntmps136
  go_wp2_with fail
  refine (hasMarking_any _ _ _ _ _ _ _ _ hn).mono ?_
  rintro e w1 ⟨rfl, hb⟩
  have hw1 : Below w.heap.size w w1 := by
    refine Below.trans ?_ (hb.mono ?_)
    · (repeat' (first | (with_reducible exact Below.refl _ _) | (with_reducible assumption) | (with_reducible refine Below.alloc ?_ ?_ _) | (with_reducible refine Below.drew ?_) | (with_reducible refine below_drewN ?_ _) | (with_reducible refine Below.setCell ?_ ?_ _) | go_size))
    · simp
  have y0 : w1.cell? ⟨w.heap.size, 0, none⟩ = some (.int .i64 f) := cell_carry (by simp) (Carries.of 0 hb)
  have y1 : w1.cell? ⟨w.heap.size, 1, none⟩ = some (.int .i64 b) := cell_carry (by simp) (Carries.of 0 hb)
  have y2 : w1.cell? ⟨w.heap.size, 2, none⟩ = some (.int .i64 t) := cell_carry (by simp) (Carries.of 0 hb)
  have x0 := cell_carry x0 (Carries.of 0 hw1)
  have x1 := cell_carry x1 (Carries.of 0 hw1)
  clear hb
  by_cases h1 : 0 ≤ f ∧ f < n
  case neg =>
    have e := HG.out
    rw [decide_eq_false (fun h => h1 h.1)] at e
    subst e
    rw [decide_eq_false h1]
    clear h1
    go_wp2_with fail
    go_ret
    exact ⟨rfl, hw1⟩
  rw [decide_eq_true h1]
  go_wp2_with fail
  refine (hasMarking_any _ _ _ _ _ _ _ _ hn).mono ?_
  rintro e w2 ⟨rfl, hb⟩
  have hw2 : Below w.heap.size w w2 := hw1.trans (hb.mono hw1.size)
  have y0 := cell_carry y0 (Carries.of 0 hb)
  have y1 := cell_carry y1 (Carries.of 0 hb)
  have y2 := cell_carry y2 (Carries.of 0 hb)
  have x0 := cell_carry x0 (Carries.of 0 hb)
  have x1 := cell_carry x1 (Carries.of 0 hb)
  clear hb
  by_cases h2 : 0 ≤ t ∧ t < n
  case neg =>
    have e := HG.out
    rw [decide_eq_false (fun h => h2 h.2.1)] at e
    subst e
    rw [decide_eq_false h2]
    clear h2
    go_wp2_with fail
    go_ret
    exact ⟨rfl, hw2⟩
  rw [decide_eq_true h2]
  by_cases h3 : 0 ≤ b
  case neg =>
    have e := HG.out
    rw [decide_eq_false (fun h => h3 h.2.2.1)] at e
    subst e
    go_wp2_with fail
    go_ret
    exact ⟨rfl, hw2⟩
  by_cases h4 : b < 24
  case neg =>
    have e := HG.out
    rw [decide_eq_false (fun h => h4 h.2.2.2)] at e
    subst e
    go_wp2_with fail
    go_ret
    exact ⟨rfl, hw2⟩
  have e := HG.out
  rw [decide_eq_true ⟨h1, h2, h3, h4⟩] at e
  subst e
  have t1 : decide (b < 0) = false := decide_eq_false (by omega)
  have t2 : decide (24 ≤ b) = false := decide_eq_false (by omega)
  go_wp2_with fail
  go_ret
  exact ⟨rfl, hw2⟩

/-- a call returns a number that is at least 0 where some move is out of bounds -/
def RetBad (w : World) (g : Bool) (e : Ending) (w' : World) : Prop := ∃ r : Int, e = .returned (.int .i64 r) ∧ -1 ≤ r ∧ r ≤ 1048576 ∧ g = decide (r < 0) ∧ Below w.heap.size w w'

set_option maxRecDepth 100000 in
set_option maxHeartbeats 1000000 in
theorem IndexFuncMv_any (v : Value) (ms : List Mv) (B : Nat) (a0 a1 : Option Addr) (n c0 m c1 : Nat) (w : World) (lo : Nat) (hv : MovesAt lo w v ms) (hl : ms.length ≤ 1048576) (hn : n ≤ 1048576)
    (x0 : w.cell? ⟨B, 0, none⟩ = some (.slice a0 n c0)) (x1 : w.cell? ⟨B, 1, none⟩ = some (.slice a1 m c1)) :
    Calls Try.prog 131 #[v, .func (.func 136) #[] #[.pointer (some ⟨B, 0, none⟩)]] w (RetBad w (movesB n ms)) := by
  obtain ⟨g, hg⟩ : ∃ g, g = movesB n ms := ⟨_, rfl⟩
  rw [← hg]
  have HG := Lib.hid hg; clear hg
  obtain ⟨ao, cap, rfl, hc, hz⟩ := hv
  have HF := Lib.hid hz; clear hz
  go_enter Try.func131, Try.ntmps131
  go_wp2_with fail
  go_loopw [8] (fun i wr => ∃ k : Nat, k ≤ ms.length ∧ i = .int .i64 k ∧ Hid (∀ j, j < k → mvOk n ms j = true) ∧ Below w.heap.size w wr) (fun i _ => ms.length - (intOf i).toNat)
  case atStart => exact ⟨0, Nat.zero_le _, rfl, fun j hj => absurd hj (Nat.not_lt_zero _), Below.refl _ _⟩
  case round =>
    obtain ⟨k, hk, rfl, hall, hb1⟩ := hrel
    by_cases hlt : k < ms.length
    · rcases HF.out with h0 | ⟨b, off, rfl, hlo, hcell⟩
      · omega
      obtain ⟨q0, q1, q2⟩ := hcell k hlt
      have d0 := Carries.of lo hb1 _ _ hlo q0
      have d1 := Carries.of lo hb1 _ _ hlo q1
      have d2 := Carries.of lo hb1 _ _ hlo q2
      clear hcell q0 q1 q2
      have hok : mvOk n ms k = decide ((0 ≤ mvF ms k ∧ mvF ms k < n) ∧ (0 ≤ mvT ms k ∧ mvT ms k < n) ∧ (0 ≤ mvB ms k ∧ mvB ms k < 24)) := rfl
      generalize mvF ms k = f at d0 hok
      generalize mvB ms k = by_ at d1 hok
      generalize mvT ms k = t at d2 hok
      have HOK := Lib.hid hok; clear hok
      have z0 := cell_carry x0 (Carries.of 0 hb1)
      have z1 := cell_carry x1 (Carries.of 0 hb1)
      go_wp2_with fail
      refine (reachClo_any _ _ _ _ _ _ _ _ _ _ _ hn z0 z1).mono ?_
      rintro e w2 ⟨rfl, hb⟩
      have hw2 : Below w.heap.size w w2 := hb1.trans (hb.mono hb1.size)
      rw [← HOK.out]
      clear hb d0 d1 d2
      cases hk2 : mvOk n ms k with
      | true =>
        have H2 : Hid (∀ j, j < k + 1 → mvOk n ms j = true) := by
          intro j hj
          by_cases ej : j = k
          · subst ej; exact hk2
          · exact hall.out j (by omega)
        clear hk2
        go_wp2_with fail
        go_roundw
        case rel => exact ⟨k + 1, by omega, by go_num, H2, hw2⟩
        case measure => simp [intOf]; omega
      | false =>
        have e := HG.out
        rw [movesB_false hlt hk2] at e
        subst e
        clear hk2
        go_wp2_with fail
        go_ret
        refine ⟨(k : Int), rfl, by omega, by omega, ?_, hw2⟩
        rw [decide_eq_false (by omega)]
    · have hkk : k = ms.length := by omega
      subst hkk
      have e := HG.out
      rw [movesB_true hall.out] at e
      subst e
      go_wp2_with fail
      go_ret
      exact ⟨-1, rfl, by omega, by omega, rfl, hb1⟩

set_option maxRecDepth 100000 in
set_option maxHeartbeats 400000 in
theorem ContainsFuncMv_any (v : Value) (ms : List Mv) (B : Nat) (a0 a1 : Option Addr) (n c0 m c1 : Nat) (w : World) (lo : Nat) (hv : MovesAt lo w v ms) (hl : ms.length ≤ 1048576) (hn : n ≤ 1048576)
    (x0 : w.cell? ⟨B, 0, none⟩ = some (.slice a0 n c0)) (x1 : w.cell? ⟨B, 1, none⟩ = some (.slice a1 m c1)) :
    Calls Try.prog 135 #[v, .func (.func 136) #[] #[.pointer (some ⟨B, 0, none⟩)]] w (RetB w (!movesB n ms)) := by
  obtain ⟨g, hg⟩ : ∃ g, g = movesB n ms := ⟨_, rfl⟩
  rw [← hg]
  have HG := Lib.hid hg; clear hg
  have hv2 := hv
  obtain ⟨ao, cap, rfl, _, _⟩ := hv2
  have HV := Lib.hid hv; clear hv
  go_enter Try.func135, Try.ntmps135
  go_wp2_with fail
  refine (IndexFuncMv_any _ ms B _ _ _ _ _ _ _ lo HV.out hl hn x0 x1).mono ?_
  rintro e w1 ⟨r, rfl, h0, h1, hr, hb⟩
  rw [← HG.out] at hr
  by_cases h : r < 0
  · rw [decide_eq_true h] at hr
    subst hr
    have t1 : decide (0 ≤ r) = false := decide_eq_false (by omega)
    go_wp2_with fail
    go_ret
    exact ⟨rfl, hb⟩
  · rw [decide_eq_false h] at hr
    subst hr
    have t1 : decide (0 ≤ r) = true := decide_eq_true (by omega)
    go_wp2_with fail
    go_ret
    exact ⟨rfl, hb⟩

theorem law_str : Keyed Try.prog 9 := string_keyed Try.underlying9

set_option maxRecDepth 100000 in
set_option maxHeartbeats 2000000 in
theorem isReach_any (v : Value) (r : RgD) (w : World) (lo : Nat) (hv : RgAt lo w v r) (hs : SmallRg r) :
    Calls Try.prog 85 #[v] w (RetB w (goodR r)) := by
  obtain ⟨g, hg⟩ : ∃ g, g = goodR r := ⟨_, rfl⟩
  rw [← hg]
  obtain ⟨a0, c0, a1, c1, rfl, hm, hl⟩ := hv.form
  clear hv
  have g1 : ¬ (1 ≤ r.marks.length ∧ r.marks.length ≤ 300 ∧ r.moves.length ≤ 4000) → goodR r = false := goodR_no
  have g2 : (1 ≤ r.marks.length ∧ r.marks.length ≤ 300 ∧ r.moves.length ≤ 4000) → goodR r = (distB r.marks && movesB r.marks.length r.moves) := goodR_yes
  rw [← hg] at g1 g2
  obtain ⟨ss, ms⟩ := r
  obtain ⟨k1, k2⟩ := hs
  simp only at hm hl k1 k2 g1 g2 ⊢
  clear hg
  have HSZ := Lib.hid k1.2
  have k1 := k1.1
  have HM := Lib.hid hm; clear hm
  have HL := Lib.hid hl; clear hl
  have G1 := Lib.hid g1; clear g1
  have G2 := Lib.hid g2; clear g2
  have hmm := @run_makeMap Try.prog
  have hmf : ∀ (fn : Fn) (first cap : Array Value) (w : World), (Instr.makeFunc fn first cap).run Try.prog w = .ok (.func fn first cap) w := fun _ _ _ _ => rfl
  go_enter Try.func85, Try.ntmps85
  by_cases h1 : 1 ≤ ss.length
  case neg =>
    have e := G1.out (by omega)
    subst e
    have t0 : ((ss.length : Int) == 0) = true := by rw [beq_iff_eq]; omega
    clear h1
    go_wp2_with fail
    go_ret
    exact ⟨rfl, by (repeat' (first | (with_reducible exact Below.refl _ _) | (with_reducible assumption) | (with_reducible refine Below.alloc ?_ ?_ _) | (with_reducible refine Below.drew ?_) | (with_reducible refine below_drewN ?_ _) | (with_reducible refine Below.setCell ?_ ?_ _) | go_size))⟩
  have t0 : ((ss.length : Int) == 0) = false := by rw [beq_eq_false_iff_ne]; omega
  by_cases h2 : ss.length ≤ 300
  case neg =>
    have e := G1.out (by omega)
    subst e
    go_wp2_with fail
    go_ret
    exact ⟨rfl, by (repeat' (first | (with_reducible exact Below.refl _ _) | (with_reducible assumption) | (with_reducible refine Below.alloc ?_ ?_ _) | (with_reducible refine Below.drew ?_) | (with_reducible refine below_drewN ?_ _) | (with_reducible refine Below.setCell ?_ ?_ _) | go_size))⟩
  by_cases h3 : ms.length ≤ 4000
  case neg =>
    have e := G1.out (by omega)
    subst e
    go_wp2_with fail
    go_ret
    exact ⟨rfl, by (repeat' (first | (with_reducible exact Below.refl _ _) | (with_reducible assumption) | (with_reducible refine Below.alloc ?_ ?_ _) | (with_reducible refine Below.drew ?_) | (with_reducible refine below_drewN ?_ _) | (with_reducible refine Below.setCell ?_ ?_ _) | go_size))⟩
  have G := Lib.hid (G2.out ⟨h1, h2, h3⟩)
  clear G1 G2
  go_wp2_with fail
  go_loopw [26] (fun i wr => ∃ k : Nat, k ≤ ss.length ∧ i = .int .i64 k ∧ wr.ownsMap Try.prog 9 (plainElem Try.prog 4) (w.heap.size + 1) k (markSet (H := Unit) ss k) ∧
      wr.cell? ⟨w.heap.size, 0, none⟩ = some (.slice a0 ss.length c0) ∧ wr.cell? ⟨w.heap.size, 1, none⟩ = some (.slice a1 ms.length c1) ∧ Below w.heap.size w wr ∧ w.heap.size + 1 < wr.heap.size) (fun i _ => ss.length - (intOf i).toNat)
  case atStart => exact ⟨0, Nat.zero_le _, rfl, by rw [markSet_zero]; simpa using World.ownsMap_made (w.alloc _) _ _ _, by simp, by simp, by (repeat' (first | (with_reducible exact Below.refl _ _) | (with_reducible assumption) | (with_reducible refine Below.alloc ?_ ?_ _) | (with_reducible refine Below.drew ?_) | (with_reducible refine below_drewN ?_ _) | (with_reducible refine Below.setCell ?_ ?_ _) | go_size)), by simp⟩
  case round =>
    obtain ⟨k, hk, rfl, hown, x0, x1, hb1, zz⟩ := hrel
    by_cases hlt : k < ss.length
    · rcases HM.out with ⟨ao, cap, hvv, hc, hz⟩
      injection hvv with e1 e2 e3
      subst e1; subst e3; clear e2
      rcases hz with h0 | ⟨b, off, rfl, hlo, hcell⟩
      · omega
      have d0 := Carries.of lo hb1 _ _ hlo (hcell k hlt)
      clear hcell
      have hkey : keyOf Try.prog 9 (.string (stN ss k)) = some (keyS (stN ss k)) := WideMaps.keyOf_string_mk Try.underlying9 (by have := HSZ.out k hlt; unfold maxLen; omega)
      have HK := Lib.hid hkey; clear hkey
      have HO := Lib.hid hown; clear hown
      go_wp2_with ((at_mapUpdate; refine wpList_mapUpdate_own _ rfl _ _ _ 163 rfl 9 4 law_str Try.underlying163 (plainElem Try.prog 4) (w.heap.size + 1) k _ rfl HO.out (by unfold maxLen; omega) _ _ _ rfl rfl HK.out _ [] (plainElem_bool Try.underlying4 true) ?_; intro w1 hown1 hgrow1))
      have H1 : Hid (w1.ownsMap Try.prog 9 (plainElem Try.prog 4) (w.heap.size + 1) (k + 1) (markSet (H := Unit) ss (k + 1))) := by rw [markSet_succ hlt]; exact hown1
      have y0 := hgrow1.cell x0 (by simp)
      have y1 := hgrow1.cell x1 (by simp)
      have z1 : w.heap.size + 1 < w1.heap.size := by have := hgrow1.size; omega
      have hw1 : Below w.heap.size w w1 := hb1.grown hgrow1 (by omega) (fun j hj => by cases hj; omega)
      clear hown1 hgrow1
      go_wp2_with fail
      go_roundw
      case rel => exact ⟨k + 1, by omega, by go_num, H1.out, y0, y1, hw1, z1⟩
      case measure => simp [intOf]; omega
    · have hkk : k = ss.length := by omega
      subst hkk
      have hd := markSet_dist (H := Unit) ss
      have HO := Lib.hid hown; clear hown
      cases hdd : distB ss with
      | false =>
        rw [hdd, decide_eq_false_iff_not] at hd
        have tb : (((Maps.size (markSet (H := Unit) ss ss.length) : Nat) : Int) == (ss.length : Int)) = false := by rw [beq_eq_false_iff_ne]; omega
        have e := G.out
        rw [hdd, Bool.false_and] at e
        subst e
        clear hd hdd
        go_wp2_with ((at_len; refine wpList_len_own _ rfl _ 163 rfl 9 4 Try.underlying163 _ (w.heap.size + 1) ss.length _ rfl HO.out ?_))
        go_ret
        exact ⟨rfl, hb1⟩
      | true =>
        rw [hdd, decide_eq_true_eq] at hd
        have tb : (((Maps.size (markSet (H := Unit) ss ss.length) : Nat) : Int) == (ss.length : Int)) = true := by rw [beq_iff_eq]; omega
        have e := G.out
        rw [hdd, Bool.true_and] at e
        have G := Lib.hid e
        clear hd hdd e
        go_wp2_with ((at_len; refine wpList_len_own _ rfl _ 163 rfl 9 4 Try.underlying163 _ (w.heap.size + 1) ss.length _ rfl HO.out ?_))
        refine (ContainsFuncMv_any _ ms w.heap.size _ _ _ _ _ _ _ lo (HL.out.keep (Carries.of lo hb1)) k2 k1 x0 x1).mono ?_
        rintro e w2 ⟨rfl, hb⟩
        have hw2 : Below w.heap.size w w2 := hb1.trans (hb.mono hb1.size)
        rw [← G.out]
        clear hb tb x0 x1
        cases g with
        | true =>
          go_wp2_with fail
          go_ret
          exact ⟨rfl, hw2⟩
        | false =>
          go_wp2_with fail
          go_ret
          exact ⟨rfl, hw2⟩

end Go.Proofs.Ytfipnlehaklepaa
