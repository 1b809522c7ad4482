/-
  WALK: HideSignal of the model.
-/
import Derived.Test.YtkkfglolameogaaHid
namespace Go.Proofs.Ytkkfglolameogaa
open Go.RowKit

theorem wp_append_sigP {o : Oper} {a : Act} {w : World} {K : Act → World → Prop} {Q : Exit → Act → World → Prop} (s x : Operand)
    (ho : o.op = .call { callee := .builtin .append, args := #[s, x], argTypes := #[33, 33] })
    (base lo : Nat) (v : Value) (n : Nat) (xs : List Value) (hs : a.eval s = v) (hown : w.ownsRow base 86 2 v n xs) (src : Value) (m : Nat) (p q : Nat → Value) (hp : ∀ i, (p i).oneCell' = true) (hq : ∀ i, (q i).oneCell' = true) (hx : a.eval x = src) (hsrc : PairsAt lo w src m p q)
    (hlen : n + m ≤ 1073741824) (hbase : base ≤ w.heap.size)
    (h : ∀ v' w', w'.ownsRow base 86 2 v' (n + m) (xs ++ pairCells p q m) → w.grownBy w' v.ownBlock → K (a.put o.dst v') w') : o.wp Try.prog a w K Q := by
  obtain ⟨v', w', hr, h2, h3⟩ := run_append_pairs _ _ _ 24 Try.underlying33 Try.infoSig rfl (by omega) w o.type base lo v n xs hown src m p q hsrc hp hq hlen hbase
  unfold Oper.wp execOp
  simp only [ho, resolve, invoke, builtin, Sem.run_bind, Sem.run_pure, Result.andThen_ok, List.map_toArray, List.map_cons, List.map_nil, hs, hx, hr]
  exact h v' w' h2 h3
theorem wpList_append_sigP {ops : Array Oper} {rest : List Oper} {o : Oper} {a : Act} {w : World} {Q : Exit → Act → World → Prop} (hgd : o.guard = none) (s x : Operand)
    (ho : o.op = .call { callee := .builtin .append, args := #[s, x], argTypes := #[33, 33] })
    (base lo : Nat) (v : Value) (n : Nat) (xs : List Value) (hs : a.eval s = v) (hown : w.ownsRow base 86 2 v n xs) (src : Value) (m : Nat) (p q : Nat → Value) (hp : ∀ i, (p i).oneCell' = true) (hq : ∀ i, (q i).oneCell' = true) (hx : a.eval x = src) (hsrc : PairsAt lo w src m p q)
    (hlen : n + m ≤ 1073741824) (hbase : base ≤ w.heap.size)
    (h : ∀ v' w', w'.ownsRow base 86 2 v' (n + m) (xs ++ pairCells p q m) → w.grownBy w' v.ownBlock → wpList Try.prog ops Q rest (a.put o.dst v') w') : wpList Try.prog ops Q (o :: rest) a w :=
  wpList_plain hgd fun _ hK => wp_append_sigP s x ho base lo v n xs hs hown src m p q hp hq hx hsrc hlen hbase fun v' w' h2 h3 => hK _ _ (h v' w' h2 h3)

set_option maxRecDepth 100000 in
set_option maxHeartbeats 4000000 in
theorem specHideSignal_any (v : Value) (s : StgD) (g0 : Int) (w : World) (lo : Nat) (hv : StgAt lo w v s) (hs : SmallStg s) :
    Calls Try.prog 18 #[v, .int .i64 g0] w (RetSB w (hidR s g0) (hidB s g0)) := by
  obtain ⟨a0, c0, a1, c1, a2, c2, rfl, hn_, hsg, hl_⟩ := hv.form
  clear hn_
  have HV := Lib.hid hv; clear hv
  have HG := Lib.hid hsg; clear hsg
  have HLA := Lib.hid hl_; clear hl_
  have HS := Lib.hid hs; clear hs
  obtain ⟨RR, hRR⟩ : ∃ R, R = (hidR s g0) := ⟨_, rfl⟩
  obtain ⟨BB, hBB⟩ : ∃ B, B = (hidB s g0) := ⟨_, rfl⟩
  rw [← hRR, ← hBB]
  have HR := Lib.hid hRR; clear hRR
  have HB := Lib.hid hBB; clear hBB
  obtain ⟨p, hp⟩ : ∃ x, x = s.net.places := ⟨_, rfl⟩
  obtain ⟨m, hm⟩ : ∃ x, x = s.net.ts.length := ⟨_, rfl⟩
  obtain ⟨ns, hns⟩ : ∃ x, x = s.sigs.length := ⟨_, rfl⟩
  obtain ⟨nl, hnl⟩ : ∃ x, x = s.labs.length := ⟨_, rfl⟩
  obtain ⟨st, hst⟩ : ∃ x, x = s.start := ⟨_, rfl⟩
  rw [← hp, ← hm, ← hns, ← hnl, ← hst] at HV ⊢
  rw [← hns] at HG
  rw [← hnl] at HLA
  have HP := Lib.hid (And.intro hp (And.intro hm (And.intro hns (And.intro hnl hst)))); clear hp hm hns hnl hst
  go_enter Try.func18, Try.ntmps18
  go_wp2_with fail
  refine (l2Good_any _ s _ lo (HV.out.keep ?_) HS.out).mono ?_
  · (repeat' (first | (with_reducible exact Carries.refl _ _) | (with_reducible assumption) | (with_reducible refine Carries.alloc ?_ _) | (with_reducible refine Carries.drew ?_) | (with_reducible refine Carries.drewN ?_ _) | (with_reducible refine Carries.set ?_ ?_ _) | go_size))
  rintro e w1 ⟨rfl, hb⟩
  have hw1 : Below w.heap.size w w1 := by
    refine Below.trans ?_ (hb.mono ?_)
    · (repeat' (first | (with_reducible exact Below.refl _ _) | (with_reducible assumption) | (with_reducible refine Below.alloc ?_ ?_ _) | (with_reducible refine Below.drew ?_) | (with_reducible refine below_drewN ?_ _) | (with_reducible refine Below.setCell ?_ ?_ _) | go_size))
    · simp; omega
  have x0 : w1.cell? ⟨w.heap.size, 0, none⟩ = some (.int .i64 p) := cell_carry (by simp [go_sem]) (Carries.of 0 hb)
  have x1 : w1.cell? ⟨w.heap.size, 1, none⟩ = some (.slice a0 m c0) := cell_carry (by simp [go_sem]) (Carries.of 0 hb)
  have x2 : w1.cell? ⟨w.heap.size, 2, none⟩ = some (.slice a1 ns c1) := cell_carry (by simp [go_sem]) (Carries.of 0 hb)
  have x3 : w1.cell? ⟨w.heap.size, 3, none⟩ = some (.slice a2 nl c2) := cell_carry (by simp [go_sem]) (Carries.of 0 hb)
  have x4 : w1.cell? ⟨w.heap.size, 4, none⟩ = some (.string st) := cell_carry (by simp [go_sem]) (Carries.of 0 hb)
  have r0 : w1.cell? ⟨w.heap.size + 1, 0, none⟩ = some (.int .i64 0) := cell_carry (by simp [go_sem]) (Carries.of 0 hb)
  have rf0 : w1.frozen? ⟨w.heap.size + 1, 0, none⟩ = false := (hb.frozen (by simp)).trans (by simp [go_sem])
  have r1 : w1.cell? ⟨w.heap.size + 1, 1, none⟩ = some (.slice none 0 0) := cell_carry (by simp [go_sem]) (Carries.of 0 hb)
  have rf1 : w1.frozen? ⟨w.heap.size + 1, 1, none⟩ = false := (hb.frozen (by simp)).trans (by simp [go_sem])
  have r2 : w1.cell? ⟨w.heap.size + 1, 2, none⟩ = some (.slice none 0 0) := cell_carry (by simp [go_sem]) (Carries.of 0 hb)
  have rf2 : w1.frozen? ⟨w.heap.size + 1, 2, none⟩ = false := (hb.frozen (by simp)).trans (by simp [go_sem])
  have r3 : w1.cell? ⟨w.heap.size + 1, 3, none⟩ = some (.slice none 0 0) := cell_carry (by simp [go_sem]) (Carries.of 0 hb)
  have rf3 : w1.frozen? ⟨w.heap.size + 1, 3, none⟩ = false := (hb.frozen (by simp)).trans (by simp [go_sem])
  have r4 : w1.cell? ⟨w.heap.size + 1, 4, none⟩ = some (.string ⟨#[]⟩) := cell_carry (by simp [go_sem]) (Carries.of 0 hb)
  have rf4 : w1.frozen? ⟨w.heap.size + 1, 4, none⟩ = false := (hb.frozen (by simp)).trans (by simp [go_sem])
  have z1 : w.heap.size + 1 < w1.heap.size := by have := hb.size; simp at this; omega
  clear hb
  cases hg : goodS s with
  | false =>
    have hno : hidB s g0 = false := by unfold hidB; rw [hg]; rfl
    clear hg
    have e1 := HB.out
    rw [hno] at e1
    have e2 := HR.out
    rw [hidR_no hno] at e2
    subst e1; subst e2
    go_wp2_with fail
    generalize hWX : (((((w1.setCell ⟨w.heap.size + 1, 0, none⟩ (.int .i64 0)).setCell ⟨w.heap.size + 1, 1, none⟩ (.slice none 0 0)).setCell ⟨w.heap.size + 1, 2, none⟩ (.slice none 0 0)).setCell ⟨w.heap.size + 1, 3, none⟩ (.slice none 0 0)).setCell ⟨w.heap.size + 1, 4, none⟩ (.string ⟨#[]⟩)) = WX
    obtain ⟨q0, q1, q2, q3, q4⟩ := put5_cells hWX r0 r1 r2 r3 r4
    have hbf := put5_below hWX hw1 (by omega)
    clear hWX
    refine bodyPost_ret (v := .tuple #[.agg #[.int .i64 0, .slice none 0 0, .slice none 0 0, .slice none 0 0, .string ⟨#[]⟩], .bool false]) (by simp [results, Try.results18, go_sem, q0, q1, q2, q3, q4]) rfl ?_
    exact ⟨_, rfl, (SepStg.zero _).at.low hbf.size, hbf⟩
  | true =>
  have hpl := goodS_places' hg
  have HPL := Lib.hid hpl; clear hpl
  have HGS := Lib.hid hg; clear hg
  have hns8 : ns ≤ 1048576 := by rw [HP.out.2.2.1]; exact HS.out.2.1.1
  go_wp2_with fail
  refine (l1In_any _ _ _ _).mono ?_
  rintro e wq ⟨rfl, hb⟩
  have hwq : Below w.heap.size w wq := hw1.trans (hb.mono hw1.size)
  have x0 := cell_carry x0 (Carries.of 0 hb)
  have x1 := cell_carry x1 (Carries.of 0 hb)
  have x2 := cell_carry x2 (Carries.of 0 hb)
  have x3 := cell_carry x3 (Carries.of 0 hb)
  have x4 := cell_carry x4 (Carries.of 0 hb)
  have r0 := cell_carry r0 (Carries.of 0 hb)
  have rf0 := (hb.frozen (p := ⟨w.heap.size + 1, 0, none⟩) z1).trans rf0
  have r1 := cell_carry r1 (Carries.of 0 hb)
  have rf1 := (hb.frozen (p := ⟨w.heap.size + 1, 1, none⟩) z1).trans rf1
  have r2 := cell_carry r2 (Carries.of 0 hb)
  have rf2 := (hb.frozen (p := ⟨w.heap.size + 1, 2, none⟩) z1).trans rf2
  have r3 := cell_carry r3 (Carries.of 0 hb)
  have rf3 := (hb.frozen (p := ⟨w.heap.size + 1, 3, none⟩) z1).trans rf3
  have r4 := cell_carry r4 (Carries.of 0 hb)
  have rf4 := (hb.frozen (p := ⟨w.heap.size + 1, 4, none⟩) z1).trans rf4
  have zq : w.heap.size + 1 < wq.heap.size := by have := hb.size; omega
  clear hb hw1 z1
  by_cases hin : 0 ≤ g0 ∧ g0 < (ns : Int)
  case neg =>
    have hno : hidB s g0 = false := by unfold hidB; rw [← HP.out.2.2.1, decide_eq_false hin]; simp
    rw [decide_eq_false (by omega)]
    clear hin
    have e1 := HB.out
    rw [hno] at e1
    have e2 := HR.out
    rw [hidR_no hno] at e2
    subst e1; subst e2
    go_wp2_with fail
    generalize hWX : (((((wq.setCell ⟨w.heap.size + 1, 0, none⟩ (.int .i64 0)).setCell ⟨w.heap.size + 1, 1, none⟩ (.slice none 0 0)).setCell ⟨w.heap.size + 1, 2, none⟩ (.slice none 0 0)).setCell ⟨w.heap.size + 1, 3, none⟩ (.slice none 0 0)).setCell ⟨w.heap.size + 1, 4, none⟩ (.string ⟨#[]⟩)) = WX
    obtain ⟨q0, q1, q2, q3, q4⟩ := put5_cells hWX r0 r1 r2 r3 r4
    have hbf := put5_below hWX hwq (by omega)
    clear hWX
    refine bodyPost_ret (v := .tuple #[.agg #[.int .i64 0, .slice none 0 0, .slice none 0 0, .slice none 0 0, .string ⟨#[]⟩], .bool false]) (by simp [results, Try.results18, go_sem, q0, q1, q2, q3, q4]) rfl ?_
    exact ⟨_, rfl, (SepStg.zero _).at.low hbf.size, hbf⟩
  rw [decide_eq_true (by omega)]
  by_cases hn1 : ns = 1
  case pos =>
    have hd : decide (ns ≠ 1) = false := decide_eq_false (fun h => h hn1)
    have hno : hidB s g0 = false := by unfold hidB; rw [← HP.out.2.2.1, hd]; simp
    clear hd
    have t1 : decide ((ns : Int) < 2) = true := decide_eq_true (by omega)
    have t2 : (ns : Int) < 2 := by omega
    clear hin hn1
    have e1 := HB.out
    rw [hno] at e1
    have e2 := HR.out
    rw [hidR_no hno] at e2
    subst e1; subst e2
    go_wp2_with fail
    generalize hWX : (((((wq.setCell ⟨w.heap.size + 1, 0, none⟩ (.int .i64 0)).setCell ⟨w.heap.size + 1, 1, none⟩ (.slice none 0 0)).setCell ⟨w.heap.size + 1, 2, none⟩ (.slice none 0 0)).setCell ⟨w.heap.size + 1, 3, none⟩ (.slice none 0 0)).setCell ⟨w.heap.size + 1, 4, none⟩ (.string ⟨#[]⟩)) = WX
    obtain ⟨q0, q1, q2, q3, q4⟩ := put5_cells hWX r0 r1 r2 r3 r4
    have hbf := put5_below hWX hwq (by omega)
    clear hWX
    refine bodyPost_ret (v := .tuple #[.agg #[.int .i64 0, .slice none 0 0, .slice none 0 0, .slice none 0 0, .string ⟨#[]⟩], .bool false]) (by simp [results, Try.results18, go_sem, q0, q1, q2, q3, q4]) rfl ?_
    exact ⟨_, rfl, (SepStg.zero _).at.low hbf.size, hbf⟩
  have t1 : decide ((ns : Int) < 2) = false := decide_eq_false (by omega)
  have t2 : (2 : Int) ≤ (ns : Int) := by omega
  have hyes : hidB s g0 = true := by unfold hidB; rw [HGS.out, ← HP.out.2.2.1, decide_eq_true hin, decide_eq_true hn1]; rfl
  obtain ⟨k, rfl⟩ : ∃ k : Nat, g0 = k := ⟨g0.toNat, by omega⟩
  have hk : k < ns := by omega
  have HY := Lib.hid hyes; clear hyes hin hn1
  go_wp2_with fail
  refine (l2Own_any _ s _ lo (HV.out.keep (Carries.of lo hwq)) HS.out.1 HS.out.2.1.1 HS.out.2.2.1).mono ?_
  rintro e w2 hret
  obtain ⟨ta, tc, sa, sc, la, lc, rfl, hos, hol, hclose, hb⟩ := hret.open2 HPL.out
  clear hret t1 t2
  have hw2 : Below w.heap.size w w2 := hwq.trans (hb.mono hwq.size)
  rw [← HP.out.1, ← HP.out.2.1, ← HP.out.2.2.1, ← HP.out.2.2.2.1, ← HP.out.2.2.2.2] at hclose ⊢
  rw [← HP.out.2.2.2.1] at hol
  obtain ⟨ss, hss⟩ : ∃ ss, ss = s.sigs := ⟨_, rfl⟩
  obtain ⟨ls, hls⟩ : ∃ ls, ls = s.labs := ⟨_, rfl⟩
  rw [← hls] at hol HLA
  rw [← hss] at HG
  have hlen : ss.length = ns := by rw [hss]; exact HP.out.2.2.1.symm
  have hllen : ls.length = nl := by rw [hls]; exact HP.out.2.2.2.1.symm
  have hlabs : ∀ i, i < nl → -1 ≤ lbS ls i ∧ lbS ls i ≤ 1048576 := fun i hi' => by
    have := goodS_labs HGS.out (i := i) (by rw [← hls, hllen]; exact hi')
    rw [← hls, ← HP.out.2.2.1] at this
    omega
  have HNS := Lib.hid hlen
  have HNL := Lib.hid hllen
  have HK := Lib.hid hlabs; clear hlabs
  have HSS := Lib.hid (And.intro hss hls)
  have hnl8 : nl ≤ 1048576 := by rw [HP.out.2.2.2.1]; exact HS.out.2.2.1
  have hlH := fun q hq => (hol.lt q hq).2
  have HOL := Lib.hid hol; clear hol
  have HLH := Lib.hid hlH; clear hlH
  have HCL := Lib.hid hclose; clear hclose hos
  clear hss hls hlen hllen
  -- the argument's signals
  obtain ⟨ao, cap, e, hc, hz⟩ := HG.out
  simp only [Value.slice.injEq] at e
  obtain ⟨rfl, e2_, rfl⟩ := e
  rw [← e2_] at hc hz
  clear e2_
  rcases hz with hz | ⟨b, off, rfl, hlo, hcellS⟩
  · omega
  have hpre : PairsAt lo w (.slice (some ⟨b, off, none⟩) k c1) k (sgX ss) (sgY ss) := ⟨_, _, rfl, by omega, Or.inr ⟨b, off, rfl, hlo, fun i hi' => hcellS i (by omega)⟩⟩
  have hsuf : PairsAt lo w (.slice (some ⟨b, off + (k + 1) * 2, none⟩) (ns - (k + 1)) (c1 - (k + 1))) (ns - (k + 1)) (fun i => sgX ss (k + 1 + i)) (fun i => sgY ss (k + 1 + i)) := ⟨_, _, rfl, by omega, Or.inr ⟨b, off + (k + 1) * 2, rfl, hlo, fun i hi' => by
    have q := hcellS (k + 1 + i) (by omega)
    rw [show off + (k + 1) * 2 + i * 2 = off + (k + 1 + i) * 2 by omega]
    exact q⟩⟩
  have hs1 : c1 = k + 1 → PairsAt lo w (.slice (some ⟨b, off, none⟩) 0 0) (ns - (k + 1)) (fun i => sgX ss (k + 1 + i)) (fun i => sgY ss (k + 1 + i)) := fun h => by
    have e : ns - (k + 1) = 0 := by omega
    rw [e]
    exact ⟨_, _, rfl, Nat.le_refl _, Or.inl rfl⟩
  have HS1 := Lib.hid hs1; clear hs1
  have HPRE := Lib.hid hpre; clear hpre
  have HSUF := Lib.hid hsuf; clear hsuf hcellS
  have r0 := cell_carry r0 (Carries.of 0 hb)
  have rf0 := (hb.frozen (p := ⟨w.heap.size + 1, 0, none⟩) zq).trans rf0
  have r1 := cell_carry r1 (Carries.of 0 hb)
  have rf1 := (hb.frozen (p := ⟨w.heap.size + 1, 1, none⟩) zq).trans rf1
  have r2 := cell_carry r2 (Carries.of 0 hb)
  have rf2 := (hb.frozen (p := ⟨w.heap.size + 1, 2, none⟩) zq).trans rf2
  have r3 := cell_carry r3 (Carries.of 0 hb)
  have rf3 := (hb.frozen (p := ⟨w.heap.size + 1, 3, none⟩) zq).trans rf3
  have r4 := cell_carry r4 (Carries.of 0 hb)
  have rf4 := (hb.frozen (p := ⟨w.heap.size + 1, 4, none⟩) zq).trans rf4
  have x3 := cell_carry x3 (Carries.of 0 hb)
  have x2 := cell_carry x2 (Carries.of 0 hb)
  have z2 : wq.heap.size ≤ w2.heap.size := hb.size
  clear hb x0 x1 x4
  have hal : Below w2.heap.size w2 (w2.alloc (.cells #[.int .i64 p, .slice ta m tc, .slice sa ns sc, .slice la nl lc, .string st] 36)) := (Below.refl _ _).alloc (Nat.le_refl _) _
  have r0' := cell_carry r0 (Carries.of 0 hal)
  have rf0' := (hal.frozen (p := ⟨w.heap.size + 1, 0, none⟩) (by show w.heap.size + 1 < w2.heap.size; omega)).trans rf0
  have r1' := cell_carry r1 (Carries.of 0 hal)
  have rf1' := (hal.frozen (p := ⟨w.heap.size + 1, 1, none⟩) (by show w.heap.size + 1 < w2.heap.size; omega)).trans rf1
  have r2' := cell_carry r2 (Carries.of 0 hal)
  have rf2' := (hal.frozen (p := ⟨w.heap.size + 1, 2, none⟩) (by show w.heap.size + 1 < w2.heap.size; omega)).trans rf2
  have r3' := cell_carry r3 (Carries.of 0 hal)
  have rf3' := (hal.frozen (p := ⟨w.heap.size + 1, 3, none⟩) (by show w.heap.size + 1 < w2.heap.size; omega)).trans rf3
  have r4' := cell_carry r4 (Carries.of 0 hal)
  have rf4' := (hal.frozen (p := ⟨w.heap.size + 1, 4, none⟩) (by show w.heap.size + 1 < w2.heap.size; omega)).trans rf4
  have x3' := cell_carry x3 (Carries.of 0 hal)
  have x2' := cell_carry x2 (Carries.of 0 hal)
  obtain ⟨W3, hW3⟩ : ∃ W3, W3 = (w2.alloc (.cells #[.int .i64 p, .slice ta m tc, .slice sa ns sc, .slice la nl lc, .string st] 36)) := ⟨_, rfl⟩
  have hz3' : W3.heap.size = w2.heap.size + 1 := by rw [hW3]; simp
  have x2b : (W3.alloc (.cells #[] 86)).cell? ⟨w.heap.size, 2, none⟩ = some (.slice (some ⟨b, off, none⟩) ns c1) := by
    rw [← hW3] at x2'
    exact cell_carry x2' (Carries.alloc (Carries.refl 0 W3) _)
  have q1 : (0 : Int) ≤ (k : Int) := by omega
  have q2 : (k : Int) ≤ (c1 : Int) := by omega
  have q3 : (0 : Int) ≤ (k : Int) + 1 := by omega
  have q4 : (k : Int) + 1 ≤ (ns : Int) := by omega
  have hzb : 0 < W3.heap.size := by omega
  have y0 : W3.cell? ⟨w2.heap.size, 0, none⟩ = some (.int .i64 p) := by rw [hW3]; simp
  have y1 : W3.cell? ⟨w2.heap.size, 1, none⟩ = some (.slice ta m tc) := by rw [hW3]; simp
  have y2 : W3.cell? ⟨w2.heap.size, 2, none⟩ = some (.slice sa ns sc) := by rw [hW3]; simp
  have y3 : W3.cell? ⟨w2.heap.size, 3, none⟩ = some (.slice la nl lc) := by rw [hW3]; simp
  have y4 : W3.cell? ⟨w2.heap.size, 4, none⟩ = some (.string st) := by rw [hW3]; simp
  have yf : W3.frozen? ⟨w2.heap.size, 2, none⟩ = false := by rw [hW3]; simp
  rw [← hW3] at hal r0' r1' r2' r3' r4' rf0' rf1' rf2' rf3' rf4' x3' x2'
  clear r0 r1 r2 r3 r4 rf0 rf1 rf2 rf3 rf4 x3 x2
  have hw3 : Below w.heap.size w W3 := hw2.trans (hal.mono hw2.size)
  have hown0 : (W3.alloc (.cells #[] 86)).ownsRow W3.heap.size 86 2 (.slice (some ⟨W3.heap.size, 0, none⟩) 0 0) 0 [] :=
    ⟨rfl, Or.inr ⟨W3.heap.size, 0, #[], rfl, Nat.le_refl _, heap_alloc_new W3 _, Nat.le_refl _, Nat.zero_le _, rfl, rfl⟩⟩
  rw [hz3'] at hown0
  have HO0 := Lib.hid hown0; clear hown0
  have HBL0 := Lib.hid (show Below W3.heap.size W3 (W3.alloc (.cells #[] 86)) from (Below.refl _ _).alloc (Nat.le_refl _) _)
  have hb3 : w2.heap.size + 1 ≤ (W3.alloc (.cells #[] 86)).heap.size := by simp; omega
  have HX2 := Lib.hid x2'; clear x2'
  have HZ3 := Lib.hid hz3'; clear hz3'
  subst hW3
  have hsrcs : (c1 = k + 1 ∧ PairsAt lo w (.slice (some ⟨b, off, none⟩) 0 0) (ns - (k + 1)) (fun i => sgX ss (k + 1 + i)) (fun i => sgY ss (k + 1 + i))) ∨ (¬ c1 = k + 1 ∧ PairsAt lo w (.slice (some ⟨b, off + (k + 1) * 2, none⟩) (ns - (k + 1)) (c1 - (k + 1))) (ns - (k + 1)) (fun i => sgX ss (k + 1 + i)) (fun i => sgY ss (k + 1 + i))) := by
    by_cases h : c1 = k + 1
    · exact Or.inl ⟨h, HS1.out h⟩
    · exact Or.inr ⟨h, HSUF.out⟩
  clear HS1 HSUF
  rcases hsrcs with ⟨rfl, hsrc⟩ | ⟨hc1, hsrc⟩
  all_goals
    have HSRC := Lib.hid hsrc
    clear hsrc
    go_wp2_with (first | (refine wpList_append_sigP rfl (.tmp 31) (.tmp 35) rfl (w2.heap.size + 1) lo _ 0 [] rfl HO0.out _ k (sgX ss) (sgY ss) (fun _ => rfl) (fun _ => rfl) rfl (HPRE.out.keep (Carries.of lo (hw3.trans (HBL0.out.mono hw3.size)))) (by omega) hb3 ?_; intro v5 W5 hown5 hgr5; simp only [Nat.zero_add, List.nil_append] at hown5; obtain ⟨a5, k5, rfl⟩ := owns_form hown5; have HB35 := Lib.hid (show Below _ _ W5 from HBL0.out.grown hgr5 HBL0.out.size (fun q hq => by have := (HO0.out.lt q hq).1; have := HZ3.out; omega)); have x2c := cell_carry HX2.out (Carries.of 0 HB35.out); have HO5 := Lib.hid hown5; clear hown5 hgr5) | (refine wpList_append_sigP rfl (.tmp 37) (.tmp 42) rfl (w2.heap.size + 1) lo _ k _ rfl HO5.out _ (ns - (k + 1)) (fun i => sgX ss (k + 1 + i)) (fun i => sgY ss (k + 1 + i)) (fun _ => rfl) (fun _ => rfl) rfl (HSRC.out.keep (Carries.of lo (hw3.trans (HB35.out.mono hw3.size)))) (by omega) (by have := HB35.out.size; have := HZ3.out; omega) ?_; intro v6 W6 hown6 hgr6; rw [← pairCells_skip hk, show k + (ns - (k + 1)) = ns - 1 by omega] at hown6; obtain ⟨a6, k6, rfl⟩ := owns_form hown6; have HB36 := Lib.hid (show Below _ _ W6 from HB35.out.grown hgr6 HB35.out.size (fun q hq => by have := (HO5.out.lt q hq).1; have := HZ3.out; omega)); have HO6 := Lib.hid hown6; have x3c := cell_carry x3' (Carries.of 0 HB36.out); have y0c := cell_carry y0 (Carries.of 0 HB36.out); have y1c := cell_carry y1 (Carries.of 0 HB36.out); have y2c := cell_carry y2 (Carries.of 0 HB36.out); have y3c := cell_carry y3 (Carries.of 0 HB36.out); have y4c := cell_carry y4 (Carries.of 0 HB36.out); have yfc := (Below.frozen HB36.out (p := ⟨w2.heap.size, 2, none⟩) (by have := HZ3.out; show w2.heap.size < _; omega)).trans yf; have r0c := cell_carry r0' (Carries.of 0 HB36.out); have rf0c := (Below.frozen HB36.out (p := ⟨w.heap.size + 1, 0, none⟩) (by have := HZ3.out; show w.heap.size + 1 < _; omega)).trans rf0'; have r1c := cell_carry r1' (Carries.of 0 HB36.out); have rf1c := (Below.frozen HB36.out (p := ⟨w.heap.size + 1, 1, none⟩) (by have := HZ3.out; show w.heap.size + 1 < _; omega)).trans rf1'; have r2c := cell_carry r2' (Carries.of 0 HB36.out); have rf2c := (Below.frozen HB36.out (p := ⟨w.heap.size + 1, 2, none⟩) (by have := HZ3.out; show w.heap.size + 1 < _; omega)).trans rf2'; have r3c := cell_carry r3' (Carries.of 0 HB36.out); have rf3c := (Below.frozen HB36.out (p := ⟨w.heap.size + 1, 3, none⟩) (by have := HZ3.out; show w.heap.size + 1 < _; omega)).trans rf3'; have r4c := cell_carry r4' (Carries.of 0 HB36.out); have rf4c := (Below.frozen HB36.out (p := ⟨w.heap.size + 1, 4, none⟩) (by have := HZ3.out; show w.heap.size + 1 < _; omega)).trans rf4'; clear hown6 hgr6))
    have hw6 : Below w.heap.size w W6 := hw3.trans (HB36.out.mono hw3.size)
    have hb26 : Below w2.heap.size w2 W6 := hal.trans (HB36.out.mono hal.size)
    have z6 : w2.heap.size < W6.heap.size := by have := HB36.out.size; have := HZ3.out; omega
    have HL6 := Lib.hid (owns_after HOL.out hb26)
    have HBU := Lib.hid (But.below (B := wq.heap.size) (o1 := (Value.slice sa ns sc).ownBlock) (o2 := (Value.slice la nl lc).ownBlock) hb26)
    have HAP := Lib.hid (show (Value.slice a6 (ns - 1) k6).ownBlock = none ∨ (Value.slice a6 (ns - 1) k6).ownBlock ≠ (Value.slice la nl lc).ownBlock by
      cases hq : (Value.slice a6 (ns - 1) k6).ownBlock with
      | none => exact Or.inl rfl
      | some q => exact Or.inr (fun e => by have h1 := (HO6.out.lt q hq).1; have h2 := HLH.out q e.symm; omega))
    clear hb26
    have e2 : (W6.setCell ⟨w2.heap.size, 2, none⟩ (.slice a6 (ns - 1) k6)).cell? ⟨w2.heap.size, 2, none⟩ = some (.slice a6 (ns - 1) k6) := World.cell?_setCell_same _ _ _ y2c
    have e0 : (W6.setCell ⟨w2.heap.size, 2, none⟩ (.slice a6 (ns - 1) k6)).cell? ⟨w2.heap.size, 0, none⟩ = some (.int .i64 p) := (World.cell?_setCell_other _ _ _ _ (by simp)).trans y0c
    have e1 : (W6.setCell ⟨w2.heap.size, 2, none⟩ (.slice a6 (ns - 1) k6)).cell? ⟨w2.heap.size, 1, none⟩ = some (.slice ta m tc) := (World.cell?_setCell_other _ _ _ _ (by simp)).trans y1c
    have e3 : (W6.setCell ⟨w2.heap.size, 2, none⟩ (.slice a6 (ns - 1) k6)).cell? ⟨w2.heap.size, 3, none⟩ = some (.slice la nl lc) := (World.cell?_setCell_other _ _ _ _ (by simp)).trans y3c
    have e4 : (W6.setCell ⟨w2.heap.size, 2, none⟩ (.slice a6 (ns - 1) k6)).cell? ⟨w2.heap.size, 4, none⟩ = some (.string st) := (World.cell?_setCell_other _ _ _ _ (by simp)).trans y4c
    have hb7 : Below w.heap.size w (W6.setCell ⟨w2.heap.size, 2, none⟩ (.slice a6 (ns - 1) k6)) := hw6.setCell (by show w.heap.size ≤ w2.heap.size; have := hw2.size; omega) _
    have HR7 := Lib.hid (HO6.out.kept (grownBy_set W6 ⟨w2.heap.size, 2, none⟩ (.slice a6 (ns - 1) k6)) (by
      cases hq : (Value.slice a6 (ns - 1) k6).ownBlock with
      | none => exact Or.inl rfl
      | some q => exact Or.inr (fun e => by have h1 := (HO6.out.lt q hq).1; injection e with e; simp at e; omega)))
    have HL7 := Lib.hid (HL6.out.kept (grownBy_set W6 ⟨w2.heap.size, 2, none⟩ (.slice a6 (ns - 1) k6)) (Or.inr (fun e => by have := HLH.out _ e; simp at this)))
    have HBU7 := Lib.hid (HBU.out.setNew (p := ⟨w2.heap.size, 2, none⟩) (Nat.le_refl _) (.slice a6 (ns - 1) k6))
    have hz7 : (W6.setCell ⟨w2.heap.size, 2, none⟩ (.slice a6 (ns - 1) k6)).heap.size = W6.heap.size := by simp
    have x3' := (show (W6.setCell ⟨w2.heap.size, 2, none⟩ (.slice a6 (ns - 1) k6)).cell? ⟨w.heap.size, 3, none⟩ = W6.cell? ⟨w.heap.size, 3, none⟩ from World.cell?_setCell_far _ _ _ _ (by simp; omega)).trans x3c
    have r0' := (show (W6.setCell ⟨w2.heap.size, 2, none⟩ (.slice a6 (ns - 1) k6)).cell? ⟨w.heap.size + 1, 0, none⟩ = W6.cell? ⟨w.heap.size + 1, 0, none⟩ from World.cell?_setCell_far _ _ _ _ (by simp; omega)).trans r0c
    have rf0' := (show (W6.setCell ⟨w2.heap.size, 2, none⟩ (.slice a6 (ns - 1) k6)).frozen? ⟨w.heap.size + 1, 0, none⟩ = W6.frozen? ⟨w.heap.size + 1, 0, none⟩ from World.frozen?_setCell _ _ _ _).trans rf0c
    have r1' := (show (W6.setCell ⟨w2.heap.size, 2, none⟩ (.slice a6 (ns - 1) k6)).cell? ⟨w.heap.size + 1, 1, none⟩ = W6.cell? ⟨w.heap.size + 1, 1, none⟩ from World.cell?_setCell_far _ _ _ _ (by simp; omega)).trans r1c
    have rf1' := (show (W6.setCell ⟨w2.heap.size, 2, none⟩ (.slice a6 (ns - 1) k6)).frozen? ⟨w.heap.size + 1, 1, none⟩ = W6.frozen? ⟨w.heap.size + 1, 1, none⟩ from World.frozen?_setCell _ _ _ _).trans rf1c
    have r2' := (show (W6.setCell ⟨w2.heap.size, 2, none⟩ (.slice a6 (ns - 1) k6)).cell? ⟨w.heap.size + 1, 2, none⟩ = W6.cell? ⟨w.heap.size + 1, 2, none⟩ from World.cell?_setCell_far _ _ _ _ (by simp; omega)).trans r2c
    have rf2' := (show (W6.setCell ⟨w2.heap.size, 2, none⟩ (.slice a6 (ns - 1) k6)).frozen? ⟨w.heap.size + 1, 2, none⟩ = W6.frozen? ⟨w.heap.size + 1, 2, none⟩ from World.frozen?_setCell _ _ _ _).trans rf2c
    have r3' := (show (W6.setCell ⟨w2.heap.size, 2, none⟩ (.slice a6 (ns - 1) k6)).cell? ⟨w.heap.size + 1, 3, none⟩ = W6.cell? ⟨w.heap.size + 1, 3, none⟩ from World.cell?_setCell_far _ _ _ _ (by simp; omega)).trans r3c
    have rf3' := (show (W6.setCell ⟨w2.heap.size, 2, none⟩ (.slice a6 (ns - 1) k6)).frozen? ⟨w.heap.size + 1, 3, none⟩ = W6.frozen? ⟨w.heap.size + 1, 3, none⟩ from World.frozen?_setCell _ _ _ _).trans rf3c
    have r4' := (show (W6.setCell ⟨w2.heap.size, 2, none⟩ (.slice a6 (ns - 1) k6)).cell? ⟨w.heap.size + 1, 4, none⟩ = W6.cell? ⟨w.heap.size + 1, 4, none⟩ from World.cell?_setCell_far _ _ _ _ (by simp; omega)).trans r4c
    have rf4' := (show (W6.setCell ⟨w2.heap.size, 2, none⟩ (.slice a6 (ns - 1) k6)).frozen? ⟨w.heap.size + 1, 4, none⟩ = W6.frozen? ⟨w.heap.size + 1, 4, none⟩ from World.frozen?_setCell _ _ _ _).trans rf4c
    clear r0c r1c r2c r3c r4c rf0c rf1c rf2c rf3c rf4c x3c y0c y1c y2c y3c y4c yfc y0 y1 y2 y3 y4 yf HL6 HBU HO6 HO5 HO0 hb3 x2b x2c
    generalize (W6.setCell ⟨w2.heap.size, 2, none⟩ (.slice a6 (ns - 1) k6)) = W7 at e0 e1 e2 e3 e4 hb7 HR7 HL7 HBU7 hz7 x3' r0' r1' r2' r3' r4' rf0' rf1' rf2' rf3' rf4' ⊢
    have r0 := r0'
    have rf0 := rf0'
    have r1 := r1'
    have rf1 := rf1'
    have r2 := r2'
    have rf2 := rf2'
    have r3 := r3'
    have rf3 := rf3'
    have r4 := r4'
    have rf4 := rf4'
    have x3 := x3'
    clear r0' r1' r2' r3' r4' rf0' rf1' rf2' rf3' rf4' x3'
    obtain ⟨ao, cap, e, hc', hz⟩ := HLA.out
    simp only [Value.slice.injEq] at e
    obtain ⟨rfl, -, rfl⟩ := e
    have HZ := Lib.hid hz; clear hz hc'
    have HL8 := Lib.hid (show W7.ownsRow wq.heap.size 98 2 (.slice la nl lc) nl (pairCells (lbX (hidLabs 0 (k : Int) ls)) (lbY (hidLabs 0 (k : Int) ls)) nl) by
      have e := hidLabs_zero (k : Int) ls
      rw [HNL.out] at e
      rw [e]
      exact HL7.out)
    have zW := hb7.size
    have hneqL : ∀ q, q < wq.heap.size → some q ≠ (Value.slice la nl lc).ownBlock := fun q hq e => by have := (HL7.out.lt q e.symm).1; omega
    have hneHL : some w2.heap.size ≠ (Value.slice la nl lc).ownBlock := fun e => by have := HLH.out _ e.symm; omega
    have HNQ := Lib.hid (And.intro hneqL hneHL); clear hneqL hneHL
    go_loopw [48] (fun i wr => ∃ j : Nat, j ≤ nl ∧ i = .int .i64 j ∧ Hid (wr.ownsRow wq.heap.size 98 2 (.slice la nl lc) nl (pairCells (lbX (hidLabs j (k : Int) ls)) (lbY (hidLabs j (k : Int) ls)) nl)) ∧ Hid (W7.grownBy wr (Value.slice la nl lc).ownBlock)) (fun i _ => nl - (intOf i).toNat)
    case atStart => exact ⟨0, Nat.zero_le _, rfl, HL8, ⟨rfl, rfl, rfl, Nat.le_refl _, fun _ _ _ => rfl⟩⟩
    case round =>
      obtain ⟨j, hj, rfl, hown, hgrow⟩ := hrel
      have zz := hgrow.out.size
      have hwr : Below w.heap.size w wr := hb7.grown hgrow.out hb7.size (fun b hb => by have := (HL8.out.lt b hb).1; omega)
      have rf0 := frozen_grown hgrow.out rf0 (by show w.heap.size + 1 < W7.heap.size; omega) (HNQ.out.1 _ (by show w.heap.size + 1 < wq.heap.size; omega))
      have r0 := hgrow.out.cell r0 (HNQ.out.1 _ (by show w.heap.size + 1 < wq.heap.size; omega))
      have rf1 := frozen_grown hgrow.out rf1 (by show w.heap.size + 1 < W7.heap.size; omega) (HNQ.out.1 _ (by show w.heap.size + 1 < wq.heap.size; omega))
      have r1 := hgrow.out.cell r1 (HNQ.out.1 _ (by show w.heap.size + 1 < wq.heap.size; omega))
      have rf2 := frozen_grown hgrow.out rf2 (by show w.heap.size + 1 < W7.heap.size; omega) (HNQ.out.1 _ (by show w.heap.size + 1 < wq.heap.size; omega))
      have r2 := hgrow.out.cell r2 (HNQ.out.1 _ (by show w.heap.size + 1 < wq.heap.size; omega))
      have rf3 := frozen_grown hgrow.out rf3 (by show w.heap.size + 1 < W7.heap.size; omega) (HNQ.out.1 _ (by show w.heap.size + 1 < wq.heap.size; omega))
      have r3 := hgrow.out.cell r3 (HNQ.out.1 _ (by show w.heap.size + 1 < wq.heap.size; omega))
      have rf4 := frozen_grown hgrow.out rf4 (by show w.heap.size + 1 < W7.heap.size; omega) (HNQ.out.1 _ (by show w.heap.size + 1 < wq.heap.size; omega))
      have r4 := hgrow.out.cell r4 (HNQ.out.1 _ (by show w.heap.size + 1 < wq.heap.size; omega))
      have e0 := hgrow.out.cell e0 HNQ.out.2
      have e1 := hgrow.out.cell e1 HNQ.out.2
      have e2 := hgrow.out.cell e2 HNQ.out.2
      have e3 := hgrow.out.cell e3 HNQ.out.2
      have e4 := hgrow.out.cell e4 HNQ.out.2
      by_cases hlt : j < nl
      · rcases HZ.out with h0 | ⟨bl, offl, rfl, hlol, hcelll⟩
        · have := HNL.out; omega
        obtain ⟨d0, d1⟩ := hcelll j (by have := HNL.out; omega)
        have hb0 : bl < w.heap.size := cell_old d0
        have d0 := hgrow.out.cell (Carries.of lo hb7 _ _ hlol d0) (HNQ.out.1 bl (by omega))
        have d1 := hgrow.out.cell (Carries.of lo hb7 _ _ hlol d1) (HNQ.out.1 bl (by omega))
        try dsimp only at d0 d1
        clear hcelll
        have hstA := hidLabs_step (g := (k : Int)) (ls := ls) (j := j) (by rw [HNL.out]; exact hlt)
        have hstB := hidLabs_step0 (g := (k : Int)) (ls := ls) (j := j) (by rw [HNL.out]; exact hlt)
        have hstC := hidLabs_same (g := (k : Int)) (ls := ls) (j := j) (by rw [HNL.out]; exact hlt)
        rw [HNL.out] at hstA hstB hstC
        obtain ⟨q5, q6⟩ := HK.out j hlt
        generalize lbS ls j = lx at d0 hstA hstB hstC q5 q6
        generalize lbU ls j = lu at d1 hstA hstB hstC
        have HA := World.ownsRow.alloc hown.out (.cells #[.int .i64 lx, .bool lu] 98)
        rcases HA.2 with ⟨e, hn0⟩ | ⟨gl, cap', cur, e, hglb, hgg, _⟩
        · omega
        simp only [Value.slice.injEq, true_and] at e
        obtain ⟨rfl, rfl⟩ := e
        have f0 := HA.frozenAt (j * 2)
        have f1 := HA.frozenAt (j * 2 + 1)
        have k0 := (HA.cellAt (j * 2) (by omega)).trans (pairCells_get _ _ nl j hlt).1
        have k1 := (HA.cellAt (j * 2 + 1) (by omega)).trans (pairCells_get _ _ nl j hlt).2
        have hgr2 := Lib.grownBy_trans hgrow.out (World.grownBy_alloc wr (.cells #[.int .i64 lx, .bool lu] 98) (some gl))
        have e3' := cell_carry e3 (Carries.alloc (Carries.refl 0 wr) (.cells #[.int .i64 lx, .bool lu] 98))
        generalize lbX (hidLabs j (k : Int) ls) j = ox at k0
        generalize lbY (hidLabs j (k : Int) ls) j = oy at k1
        by_cases h1 : lx = (k : Int)
        · subst h1
          have hA : hidA (k : Int) (k : Int) = -1 := by unfold hidA; rw [if_pos rfl]
          have hU : hidU (k : Int) (k : Int) lu = false := by unfold hidU; rw [if_pos rfl]
          rw [hA, hU] at hstA
          have s1 := HA.stored (j * 2) (.int .i64 (-1))
          have s2 := s1.1.stored (j * 2 + 1) (.bool false)
          have gr := Lib.grownBy_trans (Lib.grownBy_trans hgr2 s1.2) s2.2
          rw [hstA] at s2
          have HS2 := Lib.hid (And.intro s2.1 gr)
          clear s1 s2 gr hA hU hstA hstB hstC HA hgr2 hgg hown
          go_wp2_with fail
          go_roundw
          case rel => exact ⟨j + 1, by omega, by go_num, HS2.out.1, HS2.out.2⟩
          case measure => simp [intOf]; omega
        · have t1 : (lx == (k : Int)) = false := by simpa using h1
          have hU : hidU (k : Int) lx lu = lu := by unfold hidU; rw [if_neg h1]
          by_cases h2 : (k : Int) < lx
          · have hA : hidA (k : Int) lx = lx - 1 := by unfold hidA; rw [if_neg h1, if_pos h2]
            have hstB := hstB hU
            rw [hA] at hstB
            have s1 := HA.stored (j * 2) (.int .i64 (lx - 1))
            have gr := Lib.grownBy_trans hgr2 s1.2
            rw [hstB] at s1
            have HS2 := Lib.hid (And.intro s1.1 gr)
            clear s1 gr hA hU hstA hstB hstC HA hgr2 hgg hown h1
            go_wp2_with fail
            go_roundw
            case rel => exact ⟨j + 1, by omega, by go_num, HS2.out.1, HS2.out.2⟩
            case measure => simp [intOf]; omega
          · have hA : hidA (k : Int) lx = lx := by unfold hidA; rw [if_neg h1, if_neg h2]
            have hstC := hstC hA hU
            rw [hstC] at HA
            have HS2 := Lib.hid (And.intro HA hgr2)
            clear hA hU hstA hstB hstC HA hgr2 hgg hown h1
            go_wp2_with fail
            go_roundw
            case rel => exact ⟨j + 1, by omega, by go_num, HS2.out.1, HS2.out.2⟩
            case measure => simp [intOf]; omega
      · have hjj : j = nl := by omega
        subst hjj
        have e1_ := HB.out
        rw [HY.out] at e1_
        have e2_ := HR.out
        rw [hidR_yes HY.out, ← HSS.out.1, ← HSS.out.2, ← HP.out.2.2.2.2, HNL.out, Int.toNat_natCast] at e2_
        subst e1_; subst e2_
        have HR8 := Lib.hid (HR7.out.kept hgrow.out HAP.out)
        have HBU8 := Lib.hid (HBU7.out.trans (But.of2 hgrow.out))
        go_wp2_with fail
        generalize hWX : (((((wr.setCell ⟨w.heap.size + 1, 0, none⟩ (.int .i64 p)).setCell ⟨w.heap.size + 1, 1, none⟩ (.slice ta m tc)).setCell ⟨w.heap.size + 1, 2, none⟩ (.slice a6 (ns - 1) k6)).setCell ⟨w.heap.size + 1, 3, none⟩ (.slice la j lc)).setCell ⟨w.heap.size + 1, 4, none⟩ (.string st)) = WX
        obtain ⟨q0', q1', q2', q3', q4'⟩ := put5_cells hWX r0 r1 r2 r3 r4
        have hbf := put5_below hWX hwr (by omega)
        have hrow := put5_owns hWX HR8.out (by omega)
        have hlab := put5_owns hWX hown.out (by omega)
        have hbut := put5_but hWX HBU8.out (by omega)
        clear hWX
        refine bodyPost_ret (v := .tuple #[.agg #[.int .i64 p, .slice ta m tc, .slice a6 (ns - 1) k6, .slice la j lc, .string st], .bool true]) (by simp [results, Try.results18, go_sem, q0', q1', q2', q3', q4']) rfl ?_
        have hcs := hidSigs_cells k ss
        rw [HNS.out] at hcs
        have hG := HCL.out _ (.slice a6 (ns - 1) k6) (.slice la j lc) (hidSigs k ss) (hidLabs j (k : Int) ls) hbut (by rw [hidSigs_length, HNS.out, hcs]; exact Go.Joins.ownsRow_le hrow (by omega)) (by rw [hidLabs_length, HNL.out]; exact hlab)
        exact ⟨_, rfl, hG.low (by omega), hbf⟩

end Go.Proofs.Ytkkfglolameogaa
