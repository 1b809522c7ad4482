/- ARCS COMPARED by the program: '==' of arcs; slices.Index, slices.Contains of an arc; hasTrace. -/
import Derived.Test.YtnmoocgocnjdjaaVSgk
namespace Go.Proofs.Ytnmoocgocnjdjaa
open Go.RowKit

theorem eqlArc_run (f s t f' s' t' : Int) (u u' : Bool) (w : World) :
    (binOp .eql 98 (.agg #[.int .i64 f, .int .i64 s, .bool u, .int .i64 t]) (.agg #[.int .i64 f', .int .i64 s', .bool u', .int .i64 t'])).run Try.prog w = .ok (.bool (decide ((f, s, u, t) = (f', s', u', t')))) w := by
  by_cases h1 : f = f'
  · by_cases h2 : s = s'
    · by_cases h3 : u = u'
      · by_cases h4 : t = t'
        · subst h1; subst h2; subst h3; subst h4
          simp [go_sem]
        · subst h1; subst h2; subst h3
          have e : (t == t') = false := by simpa using h4
          simp [go_sem, e, h4]
      · subst h1; subst h2
        have e : (u == u') = false := by simpa using h3
        simp [go_sem, e, h3]
    · subst h1
      have e : (s == s') = false := by simpa using h2
      simp [go_sem, e, h2]
  · have e : (f == f') = false := by simpa using h1
    simp [go_sem, e, h1]

/-- arc k is this one -/
def arIs (C : List Ar) (f s : Int) (u : Bool) (t : Int) (k : Nat) : Bool := decide ((f, s, u, t) = (arF C k, arS C k, arU C k, arT C k))

set_option maxRecDepth 100000 in
set_option maxHeartbeats 1000000 in
theorem IndexArc_any (v : Value) (C : List Ar) (f s : Int) (u : Bool) (t : Int) (w : World) (lo : Nat) (hv : ArcsAt lo w v C) (hl : C.length ≤ 1048576) :
    Calls Try.prog 135 #[v, .agg #[.int .i64 f, .int .i64 s, .bool u, .int .i64 t]] w (RetIx w (anyTo C.length (arIs C f s u t))) := by
  obtain ⟨g, hg⟩ : ∃ g, g = arIs C f s u t := ⟨_, rfl⟩
  rw [← hg]
  obtain ⟨q, hq⟩ : ∃ q, q = anyTo C.length g := ⟨_, rfl⟩
  rw [← hq]
  have HQ := Lib.hid hq; clear hq
  have HG := Lib.hid hg; clear hg
  obtain ⟨ao, cap, rfl, hc, hz⟩ := hv
  have HF := Lib.hid hz; clear hz
  go_enter Try.func135, Try.ntmps135
  have hW : Below w.heap.size w (w.alloc (.cells #[.int .i64 f, .int .i64 s, .bool u, .int .i64 t] 98)) := (Below.refl _ _).alloc (Nat.le_refl _) _
  go_wp2_with fail
  have x0 : (w.alloc (.cells #[.int .i64 f, .int .i64 s, .bool u, .int .i64 t] 98)).cell? ⟨w.heap.size, 0, none⟩ = some (.int .i64 f) := by simp
  have x1 : (w.alloc (.cells #[.int .i64 f, .int .i64 s, .bool u, .int .i64 t] 98)).cell? ⟨w.heap.size, 1, none⟩ = some (.int .i64 s) := by simp
  have x2 : (w.alloc (.cells #[.int .i64 f, .int .i64 s, .bool u, .int .i64 t] 98)).cell? ⟨w.heap.size, 2, none⟩ = some (.bool u) := by simp
  have x3 : (w.alloc (.cells #[.int .i64 f, .int .i64 s, .bool u, .int .i64 t] 98)).cell? ⟨w.heap.size, 3, none⟩ = some (.int .i64 t) := by simp
  have zW : w.heap.size < (w.alloc (.cells #[.int .i64 f, .int .i64 s, .bool u, .int .i64 t] 98)).heap.size := by simp
  generalize w.alloc (.cells #[.int .i64 f, .int .i64 s, .bool u, .int .i64 t] 98) = W at hW x0 x1 x2 x3 zW ⊢
  go_loopw [8] (fun i wr => ∃ k : Nat, k ≤ C.length ∧ i = .int .i64 k ∧ Hid (∀ j, j < k → g j = false) ∧ Below W.heap.size W wr) (fun i _ => C.length - (intOf i).toNat)
  case atStart => exact ⟨0, Nat.zero_le _, rfl, fun j hj => absurd hj (Nat.not_lt_zero _), Below.refl _ _⟩
  case round =>
    obtain ⟨k, hk, rfl, hall, hb1⟩ := hrel
    have hw1 : Below w.heap.size w wr := hW.trans (hb1.mono hW.size)
    by_cases hlt : k < C.length
    · rcases HF.out with h0 | ⟨b, off, rfl, hlo, hcell⟩
      · omega
      obtain ⟨q0, q1, q2, q3⟩ := hcell k hlt
      have d0 := Carries.of lo hw1 _ _ hlo q0
      have d1 := Carries.of lo hw1 _ _ hlo q1
      have d2 := Carries.of lo hw1 _ _ hlo q2
      have d3 := Carries.of lo hw1 _ _ hlo q3
      have y0 := cell_keep x0 hb1 (Nat.le_refl _)
      have y1 := cell_keep x1 hb1 (Nat.le_refl _)
      have y2 := cell_keep x2 hb1 (Nat.le_refl _)
      have y3 := cell_keep x3 hb1 (Nat.le_refl _)
      clear hcell q0 q1 q2 q3
      have hgk : decide ((f, s, u, t) = (arF C k, arS C k, arU C k, arT C k)) = g k := by rw [HG.out]; rfl
      have hrun := fun w' => (eqlArc_run f s t (arF C k) (arS C k) (arT C k) u (arU C k) w').trans (by rw [hgk])
      clear hgk
      try dsimp only at d0 d1 d2 d3
      generalize arF C k = e0 at d0 hrun
      generalize arS C k = e1 at d1 hrun
      generalize arU C k = e2 at d2 hrun
      generalize arT C k = e3 at d3 hrun
      cases hk2 : g k with
      | false =>
        have H2 : Hid (∀ j, j < k + 1 → g j = false) := by
          intro j hj
          by_cases ej : j = k
          · subst ej; exact hk2
          · exact hall.out j (by omega)
        rw [hk2] at hrun
        clear hk2
        go_wp2
        go_quiet (fail)
        go_wp2_with fail
        go_roundw
        case rel => exact ⟨k + 1, by omega, by go_num, H2, below_drewN hb1 _⟩
        case measure => simp [intOf]; omega
      | true =>
        have e := HQ.out
        rw [anyTo_true hlt hk2] at e
        subst e
        rw [hk2] at hrun
        clear hk2
        go_wp2
        go_quiet (fail)
        go_wp2_with fail
        go_ret
        refine ⟨(k : Int), rfl, by omega, by omega, ?_, below_drewN hw1 _⟩
        rw [decide_eq_true (by omega)]
    · have hkk : k = C.length := by omega
      subst hkk
      have e := HQ.out
      rw [anyTo_false hall.out] at e
      subst e
      go_wp2_with fail
      go_ret
      exact ⟨-1, rfl, by omega, by omega, rfl, hw1⟩

set_option maxRecDepth 100000 in
set_option maxHeartbeats 1000000 in
theorem ContainsArc_any (v : Value) (C : List Ar) (f s : Int) (u : Bool) (t : Int) (w : World) (lo : Nat) (hv : ArcsAt lo w v C) (hl : C.length ≤ 1048576) :
    Calls Try.prog 99 #[v, .agg #[.int .i64 f, .int .i64 s, .bool u, .int .i64 t]] w (RetB w (anyTo C.length (arIs C f s u t))) := by
  obtain ⟨g, hg⟩ : ∃ g, g = anyTo C.length (arIs C f s u t) := ⟨_, rfl⟩
  rw [← hg]
  have HG := Lib.hid hg; clear hg
  have HV := Lib.hid hv
  obtain ⟨ao, cap, rfl, hc, hz⟩ := hv
  clear hz
  go_enter Try.func99, Try.ntmps99
  go_wp2_with fail
  refine (IndexArc_any _ C f s u t _ lo (HV.out.keep ?_) hl).mono ?_
  · (repeat' (first | (with_reducible exact Carries.refl _ _) | (with_reducible assumption) | (with_reducible refine Carries.alloc ?_ _) | (with_reducible refine Carries.drew ?_) | (with_reducible refine Carries.drewN ?_ _) | (with_reducible refine Carries.set ?_ ?_ _) | go_size))
  rintro e w1 ⟨r, rfl, h0, h1, hr, hb⟩
  have hw1 : Below w.heap.size w w1 := by
    refine Below.trans ?_ (hb.mono ?_)
    · (repeat' (first | (with_reducible exact Below.refl _ _) | (with_reducible assumption) | (with_reducible refine Below.alloc ?_ ?_ _) | (with_reducible refine Below.drew ?_) | (with_reducible refine below_drewN ?_ _) | (with_reducible refine Below.setCell ?_ ?_ _) | go_size))
    · simp
  rw [← HG.out] at hr
  subst hr
  clear hb
  go_wp2_with fail
  go_ret
  exact ⟨rfl, hw1⟩

/-- where the walk of k arcs ends -/
def trAt (L : List Ar) (k : Nat) : Int := if k = 0 then 0 else arT L (k - 1)
/-- arc k of the walk goes on, and is one of the graph -/
def trIs (C L : List Ar) (k : Nat) : Bool := decide (arF L k = trAt L k) && anyTo C.length (arIs C (arF L k) (arS L k) (arU L k) (arT L k))
def trB (C L : List Ar) : Bool := (List.range L.length).all (trIs C L)
theorem trB_no {C L : List Ar} {k : Nat} (hk : k < L.length) (h : trIs C L k = false) : trB C L = false := by
  unfold trB
  rw [Bool.eq_false_iff]
  intro ha
  have := (List.all_eq_true.1 ha) k (List.mem_range.2 hk)
  rw [h] at this
  cases this
theorem trB_yes {C L : List Ar} (h : ∀ k, k < L.length → trIs C L k = true) : trB C L = true :=
  List.all_eq_true.2 fun k hk => h k (List.mem_range.1 hk)
theorem trB_get {C L : List Ar} (h : trB C L = true) {k : Nat} (hk : k < L.length) : trIs C L k = true := (List.all_eq_true.1 h) k (List.mem_range.2 hk)

set_option maxRecDepth 100000 in
set_option maxHeartbeats 1000000 in
theorem hasTrace_any (v vl : Value) (r : SgD) (L : List Ar) (w : World) (lo lo' : Nat) (hv : SgAt lo w v r) (hvl : ArcsAt lo' w vl L) (hs : SmallSg r) (hl : L.length ≤ 1048576) :
    Calls Try.prog 63 #[v, vl] w (RetB w (trB r.arcs L)) := by
  obtain ⟨g, hg⟩ : ∃ g, g = trB r.arcs L := ⟨_, rfl⟩
  rw [← hg]
  obtain ⟨a0, c0, a1, c1, a2, c2, rfl, h_0, hm, h_2⟩ := hv.form
  clear hv h_0 hm
  obtain ⟨gs, ss, C⟩ := r
  obtain ⟨k0, k1, k2⟩ := hs
  simp only at h_2 k0 k1 k2 hg ⊢
  clear k0 k1
  have HC := Lib.hid h_2; clear h_2
  have HG := Lib.hid hg; clear hg
  obtain ⟨ao, cap, rfl, hc, hz⟩ := hvl
  have HF := Lib.hid hz; clear hz
  generalize gs.length = n0
  generalize ss.length = n1
  obtain ⟨m, hm⟩ : ∃ m, m = C.length := ⟨_, rfl⟩
  rw [← hm] at HC ⊢
  rw [← hm] at k2
  have HM := Lib.hid hm; clear hm
  go_enter Try.func63, Try.ntmps63
  have hW : Below w.heap.size w (w.alloc (.cells #[.slice a0 n0 c0, .slice a1 n1 c1, .slice a2 m c2] 64)) := (Below.refl _ _).alloc (Nat.le_refl _) _
  go_wp2_with fail
  have x2 : (w.alloc (.cells #[.slice a0 n0 c0, .slice a1 n1 c1, .slice a2 m c2] 64)).cell? ⟨w.heap.size, 2, none⟩ = some (.slice a2 m c2) := by simp
  have zW : w.heap.size < (w.alloc (.cells #[.slice a0 n0 c0, .slice a1 n1 c1, .slice a2 m c2] 64)).heap.size := by simp
  generalize w.alloc (.cells #[.slice a0 n0 c0, .slice a1 n1 c1, .slice a2 m c2] 64) = W at hW x2 zW ⊢
  go_loopw [5, 10] (fun at_ i wr => ∃ k : Nat, k ≤ L.length ∧ i = .int .i64 k ∧ at_ = .int .i64 (trAt L k) ∧ Hid (∀ j, j < k → trIs C L j = true) ∧ Below W.heap.size W wr) (fun _ i _ => L.length - (intOf i).toNat)
  case atStart => exact ⟨0, Nat.zero_le _, rfl, rfl, fun j hj => absurd hj (Nat.not_lt_zero _), Below.refl _ _⟩
  case round =>
    obtain ⟨k, hk, rfl, rfl, hall, hb1⟩ := hrel
    have hw1 : Below w.heap.size w wr := hW.trans (hb1.mono hW.size)
    by_cases hlt : k < L.length
    · rcases HF.out with h0 | ⟨b, off, rfl, hlo, hcell⟩
      · omega
      obtain ⟨q0, q1, q2, q3⟩ := hcell k hlt
      have d0 := Carries.of lo' hw1 _ _ hlo q0
      have d1 := Carries.of lo' hw1 _ _ hlo q1
      have d2 := Carries.of lo' hw1 _ _ hlo q2
      have d3 := Carries.of lo' hw1 _ _ hlo q3
      have y2 := cell_keep x2 hb1 (Nat.le_refl _)
      clear hcell q0 q1 q2 q3
      have hkk : trIs C L k = (decide (arF L k = trAt L k) && anyTo C.length (arIs C (arF L k) (arS L k) (arU L k) (arT L k))) := rfl
      have hnx : trAt L (k + 1) = arT L k := by unfold trAt; simp
      try dsimp only at d0 d1 d2 d3
      generalize arF L k = e0 at d0 hkk
      generalize arS L k = e1 at d1 hkk
      generalize arU L k = e2 at d2 hkk
      generalize arT L k = e3 at d3 hkk hnx
      generalize trAt L k = p at hkk ⊢
      have y2A := cell_carry y2 (Carries.alloc (Carries.refl 0 wr) (.cells #[.int .i64 e0, .int .i64 e1, .bool e2, .int .i64 e3] 98))
      by_cases he : e0 = p
      case neg =>
        have te : (e0 != p) = true := by simpa using he
        rw [decide_eq_false he, Bool.false_and] at hkk
        have e := HG.out
        rw [trB_no hlt hkk] at e
        subst e
        clear he hkk
        go_wp2_with fail
        go_ret
        exact ⟨rfl, hw1.alloc hw1.size _⟩
      have te : (e0 != p) = false := by simpa using he
      rw [decide_eq_true he, Bool.true_and] at hkk
      clear he
      have HK := Lib.hid hkk; clear hkk
      have HN := Lib.hid hnx; clear hnx
      go_wp2_with fail
      refine (ContainsArc_any _ C e0 e1 e2 e3 _ lo (HC.out.keep (Carries.of lo (hw1.alloc hw1.size _))) (by rw [← HM.out]; exact k2)).mono ?_
      rintro e w1 ⟨rfl, hb⟩
      rw [← HK.out]
      have z3 : w1.cell? ⟨wr.heap.size, 3, none⟩ = some (.int .i64 e3) := cell_carry (by simp) (Carries.of 0 hb)
      have hw2 : Below W.heap.size W w1 := by
        refine Below.trans (hb1.alloc hb1.size _) (hb.mono ?_)
        have := hb1.size
        simp; omega
      clear hb d0 d1 d2 d3 y2 y2A
      cases hkk : trIs C L k with
      | false =>
        have e := HG.out
        rw [trB_no hlt hkk] at e
        subst e
        clear hkk
        go_wp2_with fail
        go_ret
        exact ⟨rfl, hW.trans (hw2.mono hW.size)⟩
      | true =>
        have H2 : Hid (∀ j, j < k + 1 → trIs C L j = true) := by
          intro j hj
          by_cases ej : j = k
          · subst ej; exact hkk
          · exact hall.out j (by omega)
        clear hkk
        go_wp2_with fail
        go_roundw
        case rel => exact ⟨k + 1, by omega, by go_num, by rw [HN.out], H2, hw2⟩
        case measure => simp [intOf]; omega
    · have hkk : k = L.length := by omega
      subst hkk
      have e := HG.out
      rw [trB_yes hall.out] at e
      subst e
      go_wp2_with fail
      go_ret
      exact ⟨rfl, hw1⟩

end Go.Proofs.Ytnmoocgocnjdjaa
