/- DRAWS: subset, net. -/
import Derived.Test.YtkkfglolameogaaVUne
namespace Go.Proofs.Ytkkfglolameogaa
open Go.RowKit

theorem CurAt.old {b a : Nat} {w : World} (h : CurAt b w a) : b < w.heap.size := by
  obtain ⟨v, n, s, c0, _⟩ := h
  have := cell_old c0; simpa using this
/-- what leaves the cursor and all before it as it was -/
theorem CurAt.keep {b a : Nat} {w w' : World} (h : CurAt b w a) (hw : ∀ x, x ≤ b → x < w.heap.size → w'.heap[x]? = w.heap[x]?) : CurAt b w' a := by
  have hb := h.old
  obtain ⟨v, n, s, c0, hcode, hn, c1, c2, s0, s1, f1, f2⟩ := h
  have hcell : ∀ {o : Nat} {u : Value}, w.cell? ⟨b, o, none⟩ = some u → w'.cell? ⟨b, o, none⟩ = some u := fun {o} {u} hx => (World.cell?_of_block (w := w) (w' := w') (a := ⟨b, o, none⟩) (hw b (Nat.le_refl _) hb)).trans hx
  have hfr : ∀ {o : Nat}, w.frozen? ⟨b, o, none⟩ = false → w'.frozen? ⟨b, o, none⟩ = false := fun {o} hx => (World.frozen?_of_block (w := w) (w' := w') (a := ⟨b, o, none⟩) (hw b (Nat.le_refl _) hb)).trans hx
  exact ⟨v, n, s, hcell c0, hcode.keep (fun x hx hy => hw x (by omega) hy), hn, hcell c1, hcell c2, s0, s1, hfr f1, hfr f2⟩
theorem CurAt.below {b a : Nat} {w w' : World} (h : CurAt b w a) (hb : Below w.heap.size w w') : CurAt b w' a := h.keep (fun x _ hx => hb.block x hx)
theorem grown_below {w w' : World} {o : Option Nat} (hb : Below w.heap.size w w') : w.grownBy w' o := ⟨hb.os, hb.tape, hb.output, hb.size, fun q hq _ => hb.block q hq⟩
theorem owns_cur {base size n b : Nat} {e : TypeId} {v : Value} {xs : List Value} {w w' : World} (h : w.ownsRow base e size v n xs) (hg : w.grownBy w' (some b)) (hb : b < base) : w'.ownsRow base e size v n xs := by
  refine h.kept hg ?_
  cases hq : v.ownBlock with
  | none => exact Or.inl rfl
  | some q => exact Or.inr (fun e => by injection e with e; have := (h.lt q hq).1; omega)
theorem SetRow.cur {B k b : Nat} {w w' : World} {v : Value} (h : SetRow B k w v) (hg : w.grownBy w' (some b)) (hb : b < B) : SetRow B k w' v := by
  obtain ⟨zs, hz, hr⟩ := h
  exact ⟨zs, hz, owns_cur hr hg hb⟩
theorem SetRow.low {B B' k k' : Nat} {w : World} {v : Value} (h : SetRow B k w v) (hB : B' ≤ B) (hk : k ≤ k') : SetRow B' k' w v := by
  obtain ⟨zs, hz, hr⟩ := h
  exact ⟨zs, Nat.le_trans hz hk, hr.low hB⟩
theorem SetRow.after {B k : Nat} {w w' : World} {v : Value} (h : SetRow B k w v) (hb : Below w.heap.size w w') : SetRow B k w' v := by
  obtain ⟨zs, hz, hr⟩ := h
  exact ⟨zs, hz, owns_after hr hb⟩
theorem SetRow.form {B k : Nat} {w : World} {v : Value} (h : SetRow B k w v) : ∃ a n c, v = .slice a n c := by
  obtain ⟨zs, hz, hr⟩ := h
  obtain ⟨a, c, rfl⟩ := hr.form
  exact ⟨a, _, c, rfl⟩

set_option maxRecDepth 100000 in
set_option maxHeartbeats 2000000 in
theorem subset_any (b a : Nat) (n : Int) (w : World) (hc : CurAt b w a) (ha : a ≤ 1099511627000) (hn : n ≤ 2147483648) (hn0 : -2147483648 ≤ n) :
    Calls Try.prog 154 #[.pointer (some ⟨b, 0, none⟩), .int .i64 n, .int .i64 2] w (fun e w' => ∃ (v : Value) (a' : Nat), e = .returned v ∧ SetRow w.heap.size 2 w' v ∧ a' ≤ a + 6 ∧ CurAt b w' a' ∧ w.grownBy w' (some b)) := by
  have hbo := hc.old
  have HC := Lib.hid hc; clear hc
  go_enter Try.func154, Try.ntmps154
  go_wp2_with fail
  refine (pick_any b a 2 w HC.out (by omega) (by omega) (by omega)).mono ?_
  rintro e w1 ⟨r, a1, rfl, r0, r1, ha1, hc1, hg1⟩
  obtain ⟨M, rfl⟩ : ∃ M : Nat, r = M := ⟨r.toNat, by omega⟩
  have HC1 := Lib.hid (And.intro hc1 hg1); clear hc1 hg1
  have hM : M ≤ 1 := by omega
  clear r0 r1
  have s0 : SetRow w.heap.size 0 w1 (.slice none 0 0) := ⟨[], Nat.le_refl _, World.ownsRow_nil _ _ _ _⟩
  have S0 := Lib.hid s0; clear s0
  go_wp2_with fail
  go_loopw [7, 8] (fun l k wr => ∃ (j a' : Nat), k = .int .i64 j ∧ j ≤ 1 + M ∧ a' + 2 * j ≤ a + 4 + 2 * M ∧ Hid (SetRow w.heap.size (1 + M - j) wr l) ∧ Hid (CurAt b wr a') ∧ Hid (w.grownBy wr (some b))) (fun _ k _ => (intOf k).toNat)
  case atStart => exact ⟨1 + M, a1, by simp, Nat.le_refl _, by omega, S0.out.low (Nat.le_refl _) (Nat.zero_le _), HC1.out.1, HC1.out.2⟩
  case round =>
    obtain ⟨j, a', rfl, hj, haj, hset, hcur, hgr⟩ := hrel
    have zz := hgr.out.size
    by_cases h0 : 0 < j
    · have t1 : decide ((0 : Int) < (j : Int)) = true := decide_eq_true (by omega)
      have t2 : (0 : Int) < (j : Int) := by omega
      obtain ⟨zs, hz, hr⟩ := hset.out
      obtain ⟨la, lc, rfl⟩ := hr.form
      have HR := Lib.hid hr; clear hr
      go_wp2_with fail
      refine (pick_any b a' n wr hcur.out (by omega) hn hn0).mono ?_
      rintro e w2 ⟨r, a2, rfl, r0, r1, ha2, hc2, hg2⟩
      have HR2 := Lib.hid (owns_cur HR.out hg2 hbo); clear HR
      have HG2 := Lib.hid (Lib.grownBy_trans hgr.out hg2)
      have z2 := hg2.size
      have HC2 := Lib.hid hc2; clear hc2 hg2 hgr hcur
      go_wp2_with fail
      refine (l1Put_any _ zs r w2 w.heap.size HR2.out (by omega) (by omega)).mono ?_
      rintro e w3 ⟨v3, rfl, hs3, hb3⟩
      obtain ⟨a3, n3, c3, rfl⟩ := hs3.form
      have HS3 := Lib.hid (hs3.low (B' := w.heap.size) (k' := 1 + M - (j - 1)) (Nat.le_refl _) (by omega))
      have HC3 := Lib.hid (HC2.out.below hb3)
      have HG3 := Lib.hid (Lib.grownBy_trans HG2.out (grown_below hb3)); clear hs3 hb3
      go_wp2_with fail
      go_roundw
      case rel => exact ⟨j - 1, a2, by go_num, by omega, by omega, HS3.out, HC3.out, HG3.out⟩
      case measure => simp [intOf]; omega
    · have h00 : j = 0 := by omega
      subst h00
      obtain ⟨la, ln, lc, rfl⟩ := hset.out.form
      go_wp2_with fail
      go_ret
      exact ⟨_, a', rfl, hset.out.low (Nat.le_refl _) (by omega), by omega, hcur.out, hgr.out⟩

/-- a row of so many transitions at most, of the call's own, short lists -/
def NetRow (B k : Nat) (w : World) (u : Value) : Prop := ∃ (ts : List Tr) (xs : List Value), ts.length ≤ k ∧ (∀ i, i < ts.length → (ts.getD i ([], [])).1.length ≤ 2 ∧ (ts.getD i ([], [])).2.length ≤ 2) ∧
  w.ownsRow B 64 2 u ts.length xs ∧ OwnTrs B w xs ts.length ts
theorem NetRow.form {B k : Nat} {w : World} {v : Value} (h : NetRow B k w v) : ∃ a n c, v = .slice a n c := by
  obtain ⟨ts, xs, _, _, hr, _⟩ := h
  obtain ⟨a, c, rfl⟩ := owns_form hr
  exact ⟨a, _, c, rfl⟩
theorem NetRow.cur {B k b : Nat} {w w' : World} {v : Value} (h : NetRow B k w v) (hg : w.grownBy w' (some b)) (hb : b < B) : NetRow B k w' v := by
  obtain ⟨ts, xs, h1, h2, hr, h3, h4⟩ := h
  refine ⟨ts, xs, h1, h2, owns_cur hr hg hb, h3, fun i hi => ?_⟩
  obtain ⟨v0, v1, e0, e1, g0, g1⟩ := h4 i hi
  exact ⟨v0, v1, e0, e1, owns_cur g0 hg hb, owns_cur g1 hg hb⟩
theorem NetRow.after {B k : Nat} {w w' : World} {v : Value} (h : NetRow B k w v) (hb : Below w.heap.size w w') : NetRow B k w' v := by
  obtain ⟨ts, xs, h1, h2, hr, h3⟩ := h
  exact ⟨ts, xs, h1, h2, owns_after hr hb, h3.after hb⟩
theorem NetRow.low {B B' k k' : Nat} {w : World} {v : Value} (h : NetRow B k w v) (hB : B' ≤ B) (hk : k ≤ k') : NetRow B' k' w v := by
  obtain ⟨ts, xs, h1, h2, hr, h3⟩ := h
  exact ⟨ts, xs, Nat.le_trans h1 hk, h2, Go.Joins.ownsRow_le hr hB, h3.low hB⟩

/-- a box of a net -/
def NBox (nb : Nat) (w : World) (p u : Value) : Prop := w.cell? ⟨nb, 0, none⟩ = some p ∧ w.cell? ⟨nb, 1, none⟩ = some u ∧ w.frozen? ⟨nb, 0, none⟩ = false ∧ w.frozen? ⟨nb, 1, none⟩ = false
theorem NBox.keep {nb : Nat} {w w' : World} {p u : Value} (h : NBox nb w p u) (he : w'.heap[nb]? = w.heap[nb]?) : NBox nb w' p u :=
  ⟨(World.cell?_of_block (w := w) (w' := w') (a := ⟨nb, 0, none⟩) he).trans h.1, (World.cell?_of_block (w := w) (w' := w') (a := ⟨nb, 1, none⟩) he).trans h.2.1,
    (World.frozen?_of_block (w := w) (w' := w') (a := ⟨nb, 0, none⟩) he).trans h.2.2.1, (World.frozen?_of_block (w := w) (w' := w') (a := ⟨nb, 1, none⟩) he).trans h.2.2.2⟩
theorem NBox.old {nb : Nat} {w : World} {p u : Value} (h : NBox nb w p u) : nb < w.heap.size := by have := cell_old h.1; simpa using this
theorem NBox.cur {nb b : Nat} {w w' : World} {p u : Value} (h : NBox nb w p u) (hg : w.grownBy w' (some b)) (hb : b ≠ nb) : NBox nb w' p u := h.keep (hg.block nb h.old (fun e => by injection e with e; omega))
theorem NBox.after {nb : Nat} {w w' : World} {p u : Value} (h : NBox nb w p u) (hb : Below w.heap.size w w') : NBox nb w' p u := h.keep (hb.block nb h.old)
theorem NBox.far {nb : Nat} {w : World} {p u : Value} (h : NBox nb w p u) {q : Addr} (hq : q.block ≠ nb) (v : Value) : NBox nb (w.setCell q v) p u := h.keep (Below.heap_setCell _ _ _ _ (Ne.symm hq))
theorem NBox.new (w : World) (p u : Value) (t : TypeId) : NBox w.heap.size (w.alloc (.cells #[p, u] t)) p u := ⟨by simp, by simp, by simp, by simp⟩
theorem NBox.set0 {nb : Nat} {w : World} {p u : Value} (h : NBox nb w p u) (v : Value) : NBox nb (w.setCell ⟨nb, 0, none⟩ v) v u :=
  ⟨World.cell?_setCell_same _ _ _ h.1, (World.cell?_setCell_other _ _ _ _ (by simp)).trans h.2.1, (World.frozen?_setCell _ _ _ _).trans h.2.2.1, (World.frozen?_setCell _ _ _ _).trans h.2.2.2⟩
theorem NBox.set1 {nb : Nat} {w : World} {p u : Value} (h : NBox nb w p u) (v : Value) : NBox nb (w.setCell ⟨nb, 1, none⟩ v) p v :=
  ⟨(World.cell?_setCell_other _ _ _ _ (by simp)).trans h.1, World.cell?_setCell_same _ _ _ h.2.1, (World.frozen?_setCell _ _ _ _).trans h.2.2.1, (World.frozen?_setCell _ _ _ _).trans h.2.2.2⟩
theorem grown_setNew {w w' : World} {o : Option Nat} (h : w.grownBy w' o) {q : Addr} (hq : w.heap.size ≤ q.block) (v : Value) : w.grownBy (w'.setCell q v) o :=
  ⟨h.os, h.tape, h.output, by have := h.size; simpa [World.setCell] using this, fun k hk hne => (Below.heap_setCell _ _ _ _ (by omega)).trans (h.block k hk hne)⟩
theorem CurAt.far {b a : Nat} {w : World} (h : CurAt b w a) {q : Addr} (hq : b < q.block) (v : Value) : CurAt b (w.setCell q v) a := h.keep (fun x hx _ => Below.heap_setCell _ _ _ _ (by omega))

/-- a box of a transition -/
def TBox (tb : Nat) (w : World) (p u : Value) : Prop := NBox tb w p u ∧ TyAt w tb 64
theorem TBox.new (w : World) (p u : Value) : TBox w.heap.size (w.alloc (.cells #[p, u] 64)) p u := ⟨NBox.new _ _ _ _, TyAt.new _ _ _⟩
theorem TBox.cur {tb b : Nat} {w w' : World} {p u : Value} (h : TBox tb w p u) (hg : w.grownBy w' (some b)) (hb : b ≠ tb) : TBox tb w' p u := ⟨h.1.cur hg hb, h.2.grown hg (fun e => by injection e with e; omega)⟩
theorem TBox.set0 {tb : Nat} {w : World} {p u : Value} (h : TBox tb w p u) (v : Value) : TBox tb (w.setCell ⟨tb, 0, none⟩ v) v u := ⟨h.1.set0 v, h.2.set _ _⟩
theorem TBox.set1 {tb : Nat} {w : World} {p u : Value} (h : TBox tb w p u) (v : Value) : TBox tb (w.setCell ⟨tb, 1, none⟩ v) p v := ⟨h.1.set1 v, h.2.set _ _⟩
theorem setRow_one {B k tb o : Nat} {w : World} {v : Value} (h : SetRow B k w v) (hT : TyAt w tb 64) (u : Value) : SetRow B k (w.setCell ⟨tb, o, none⟩ u) v := by
  obtain ⟨zs, hz, hr⟩ := h
  exact ⟨zs, hz, owns_setT hr (p := ⟨tb, o, none⟩) hT (by decide) u⟩
theorem setRow_box {B k tb : Nat} {w : World} {v : Value} (h : SetRow B k w v) (hT : TyAt w tb 64) (v0 v1 : Value) : SetRow B k ((w.setCell ⟨tb, 0, none⟩ v0).setCell ⟨tb, 1, none⟩ v1) v :=
  setRow_one (setRow_one h hT v0) (hT.set _ _) v1
theorem wpList_append_pair {ops : Array Oper} {rest : List Oper} {o : Oper} {a : Act} {w : World} {Q : Exit → Act → World → Prop} (hgd : o.guard = none) (s x : Operand)
    (ho : o.op = .call { callee := .builtin .append, args := #[s, x], argTypes := #[30, 30] })
    (base : Nat) (v : Value) (n : Nat) (xs : List Value) (hs : a.eval s = v) (hown : w.ownsRow base 64 2 v n xs) (b : Nat) (u0 u1 : Value) (hx : a.eval x = .slice (some ⟨b, 0, none⟩) 1 1)
    (hc0 : w.cell? ⟨b, 0, none⟩ = some u0) (hc1 : w.cell? ⟨b, 1, none⟩ = some u1) (o0 : u0.oneCell' = true) (o1 : u1.oneCell' = true) (hn : n ≤ 1073741824) (hbase : base ≤ w.heap.size)
    (h : ∀ v' w', w'.ownsRow base 64 2 v' (n + 1) (xs ++ [u0, u1]) → w.grownBy w' v.ownBlock → wpList Try.prog ops Q rest (a.put o.dst v') w') : wpList Try.prog ops Q (o :: rest) a w :=
  wpList_plain hgd fun _ hK => wp_append_pair s x ho base v n xs hs hown b u0 u1 hx hc0 hc1 o0 o1 hn hbase fun v' w' h2 h3 => hK _ _ (h v' w' h2 h3)
theorem NetRow.push {B k : Nat} {w w' : World} {u v v0 v1 : Value} {ts : List Tr} {xs : List Value} (hk : ts.length ≤ k) (hl : ∀ i, i < ts.length → (ts.getD i ([], [])).1.length ≤ 2 ∧ (ts.getD i ([], [])).2.length ≤ 2)
    (hr : w.ownsRow B 64 2 u ts.length xs) (ho : OwnTrs B w xs ts.length ts) (h0 : SetRow B 2 w v0) (h1 : SetRow B 2 w v1) (hr' : w'.ownsRow B 64 2 v (ts.length + 1) (xs ++ [v0, v1])) (hg : w.grownBy w' u.ownBlock) : NetRow B (k + 1) w' v := by
  obtain ⟨z0, l0, r0⟩ := h0
  obtain ⟨z1, l1, r1⟩ := h1
  have hnew : (ts ++ [(z0, z1)]).getD ts.length ([], []) = (z0, z1) := by simp [List.getD]
  have hold : ∀ i, i < ts.length → (ts ++ [(z0, z1)]).getD i ([], []) = ts.getD i ([], []) := fun i hi => by simp [List.getD, List.getElem?_append_left hi]
  refine ⟨ts ++ [(z0, z1)], xs ++ [v0, v1], by simp; omega, fun i hi => ?_, by simpa using hr', ?_⟩
  · by_cases e : i = ts.length
    · subst e; rw [hnew]; exact ⟨l0, l1⟩
    · rw [hold i (by simp at hi; omega)]; exact hl i (by simp at hi; omega)
  · have h2 := ((ho.grown hr hg).congr hold).put (u0 := v0) (u1 := v1) (by rw [hnew]; exact r0.kept hg (rows_apart r0 hr)) (by rw [hnew]; exact r1.kept hg (rows_apart r1 hr))
    simpa using h2

theorem grown_row {w W w' : World} {o r : Option Nat} (h : w.grownBy W o) (hg : W.grownBy w' r) (hr : ∀ q, r = some q → w.heap.size ≤ q) : w.grownBy w' o :=
  ⟨hg.os.trans h.os, hg.tape.trans h.tape, hg.output.trans h.output, Nat.le_trans h.size hg.size, fun k hk hne => (hg.block k (Nat.lt_of_lt_of_le hk h.size) (fun e => by have := hr _ e.symm; omega)).trans (h.block k hk hne)⟩
theorem NetRow.farT {B k tb o : Nat} {w : World} {u : Value} (h : NetRow B k w u) (hT : TyAt w tb 64) (hne : some tb ≠ u.ownBlock) (v : Value) : NetRow B k (w.setCell ⟨tb, o, none⟩ v) u := by
  obtain ⟨ts, xs, h1, h2, hr, h3⟩ := h
  refine ⟨ts, xs, h1, h2, hr.kept (grownBy_set w ⟨tb, o, none⟩ v) (Or.inr (fun e => hne e.symm)), h3.setT (p := ⟨tb, o, none⟩) hT (by decide) v⟩
theorem NetRow.setLow {B k : Nat} {w : World} {u : Value} (h : NetRow B k w u) {q : Addr} (hq : q.block < B) (v : Value) : NetRow B k (w.setCell q v) u := by
  obtain ⟨ts, xs, h1, h2, hr, h3⟩ := h
  exact ⟨ts, xs, h1, h2, owns_set hr hq v, h3.set hq v⟩
/-- behind the region that makes a transition -/
def NetMid (b nb a0 : Nat) (wr : World) (mk : Nat → Value → Value → Act) (e : Exit) (a' : Act) (w' : World) : Prop :=
  e = .normal ∧ ∃ (tb a1 : Nat) (x0 : Option Addr) (n0 c0 : Nat) (x1 : Option Addr) (n1 c1 : Nat), a' = mk tb (.slice x0 n0 c0) (.slice x1 n1 c1) ∧ wr.heap.size ≤ tb ∧ TBox tb w' (.slice x0 n0 c0) (.slice x1 n1 c1) ∧
    SetRow (nb + 1) 2 w' (.slice x0 n0 c0) ∧ SetRow (nb + 1) 2 w' (.slice x1 n1 c1) ∧ a1 ≤ a0 + 12 ∧ CurAt b w' a1 ∧ wr.grownBy w' (some b)

set_option maxRecDepth 100000 in
set_option maxHeartbeats 8000000 in
theorem net_any (b a : Nat) (w : World) (hc : CurAt b w a) (ha : a ≤ 1099511620000) :
    Calls Try.prog 140 #[.pointer (some ⟨b, 0, none⟩)] w (fun e w' => ∃ (p : Int) (u : Value) (a' : Nat), e = .returned (.agg #[.int .i64 p, u]) ∧ 2 ≤ p ∧ p ≤ 6 ∧ NetRow w.heap.size 4 w' u ∧ a' ≤ a + 100 ∧ CurAt b w' a' ∧ w.grownBy w' (some b)) := by
  have hbo := hc.old
  have hal : Below w.heap.size w (w.alloc (.cells #[.int .i64 0, .slice none 0 0] 32)) := (Below.refl _ _).alloc (Nat.le_refl _) _
  have HC := Lib.hid (hc.below hal); clear hc
  go_enter Try.func140, Try.ntmps140
  go_wp2_with fail
  refine (pick_any b a 5 _ HC.out (by omega) (by omega) (by omega)).mono ?_
  rintro e w1 ⟨r, a1, rfl, r0, r1, ha1, hc1, hg1⟩
  have z0 : w.heap.size + 1 ≤ w1.heap.size := by have := hg1.size; simp at this; omega
  have BR := Lib.hid ((NBox.new w (.int .i64 0) (.slice none 0 0) 32).cur hg1 (by omega))
  have HG1 := Lib.hid (Lib.grownBy_trans (grown_below hal) hg1); clear hg1 hal HC
  obtain ⟨P, hP⟩ : ∃ P, P = 2 + r := ⟨_, rfl⟩
  have hal : Below w1.heap.size w1 (w1.alloc (.cells #[.int .i64 P, .slice none 0 0] 32)) := (Below.refl _ _).alloc (Nat.le_refl _) _
  have HC2 := Lib.hid (hc1.below hal); clear hc1
  have BR2 := Lib.hid (BR.out.after hal); clear BR
  have BN2 := Lib.hid (NBox.new w1 (.int .i64 P) (.slice none 0 0) 32)
  have HG2 := Lib.hid (Lib.grownBy_trans HG1.out (grown_below hal)); clear HG1
  have z1 : (w1.alloc (.cells #[.int .i64 P, .slice none 0 0] 32)).heap.size = w1.heap.size + 1 := by simp
  have p0 : 2 ≤ P := by omega
  have p1 : P ≤ 6 := by omega
  go_wp2_with fail
  rw [← hP]
  clear hal hP r0 r1
  generalize w1.alloc (.cells #[.int .i64 P, .slice none 0 0] 32) = w2 at HC2 BR2 BN2 HG2 z1 ⊢
  refine (pick_any b a1 5 w2 HC2.out (by omega) (by omega) (by omega)).mono ?_
  rintro e w3 ⟨r, a3, rfl, r0, r1, ha3, hc3, hg3⟩
  obtain ⟨M, rfl⟩ : ∃ M : Nat, r = M := ⟨r.toNat, by omega⟩
  have hM : M ≤ 4 := by omega
  clear r0 r1
  have BR3 := Lib.hid (BR2.out.cur hg3 (by omega)); clear BR2
  have BN3 := Lib.hid (BN2.out.cur hg3 (by omega)); clear BN2
  have HG3 := Lib.hid (Lib.grownBy_trans HG2.out hg3); clear HG2
  have z3 := hg3.size
  have HC3 := Lib.hid hc3; clear hc3 hg3 HC2
  have hnr : NetRow (w1.heap.size + 1) 0 w3 (.slice none 0 0) := ⟨[], [], Nat.le_refl _, fun i hi => absurd hi (Nat.not_lt_zero _), World.ownsRow_nil _ _ _ _, OwnTrs.zero _ _ _⟩
  have HNR := Lib.hid hnr; clear hnr
  go_wp2_with fail
  go_loopw [4] (fun k wr => ∃ (j a' : Nat) (u : Value), k = .int .i64 j ∧ j ≤ M ∧ a' + 14 * j ≤ a + 4 + 14 * M ∧ Hid (NBox w1.heap.size wr (.int .i64 P) u) ∧ Hid (NBox w.heap.size wr (.int .i64 0) (.slice none 0 0)) ∧ Hid (NetRow (w1.heap.size + 1) (M - j) wr u) ∧ Hid (CurAt b wr a') ∧ Hid (w.grownBy wr (some b)) ∧ w1.heap.size < wr.heap.size) (fun k _ => (intOf k).toNat)
  case atStart => exact ⟨M, a3, _, rfl, Nat.le_refl _, by omega, BN3.out, BR3.out, HNR.out.low (Nat.le_refl _) (by omega), HC3.out, HG3.out, by omega⟩
  case round =>
    obtain ⟨j, a', u, rfl, hj, haj, hbn, hbr, hnr, hcur, hgr, hnbr⟩ := hrel
    have zz := hgr.out.size
    obtain ⟨ua, un, uc, rfl⟩ := hnr.out.form
    by_cases h0 : 0 < j
    · have t1 : decide ((0 : Int) < (j : Int)) = true := decide_eq_true (by omega)
      have t2 : (0 : Int) < (j : Int) := by omega
      have n0 := hbn.out.1
      go_wp2_with fail
      refine Code.wp_mono (Q := NetMid b w1.heap.size a' wr (fun tb v0 v1 => { tmps := #[.pointer (some ⟨b, 0, none⟩), undef, .pointer (some ⟨w.heap.size, 0, none⟩), .pointer (some ⟨w1.heap.size, 0, none⟩), .int .i64 j, .pointer (some ⟨tb, 0, none⟩), .pointer (some ⟨b, 0, none⟩), .int .i64 r, .int .i64 P, .agg #[.int .i64 P, .slice none 0 0], .pointer (some ⟨b, 0, none⟩), .int .i64 M, .int .i64 j, .bool true, u14, u15, .pointer (some ⟨b, 0, none⟩), .pointer (some ⟨w1.heap.size, 0, none⟩), .int .i64 P, v0, .pointer (some ⟨b, 0, none⟩), .pointer (some ⟨w1.heap.size, 0, none⟩), .int .i64 P, v1, .agg #[v0, v1], u25, u26, u27, u28, u29, u30, u31, u32, u33, undef], defers := [] })) ?_ ?_
      rotate_left 1
      · refine wp_region_held_drew (S := fun w' => w'.cell? ⟨w1.heap.size, 0, none⟩ = some (.int .i64 P)) (by kernel_rfl) n0 (fun hHeld => ?_)
        have hd : Below wr.heap.size wr wr.drew := (Below.refl _ _).drew
        have n0_0 := cell_carry n0 (Carries.of 0 hd)
        have CU0 := Lib.hid (hcur.out.below hd)
        have GR0 : Hid (wr.grownBy wr.drew (some b)) := grown_below hd
        have zv0 := hd.size
        have hbwr : b < wr.heap.size := by omega
        clear hd
        generalize wr.drew = V0 at n0_0 CU0 GR0 zv0 hHeld ⊢
        refine tk0 (v := ?_) (by kernel_rfl) (by kernel_rfl) (by kernel_rfl) (by first | exact fun _ _ _ h => h | exact fun _ _ _ h => absurd h.1 (by simp)) (Or.inl ⟨by rfl, ?_⟩) (by assumption) ?_
        rotate_left 1
        focus (intro wx hSw; (try dsimp only at hSw); go_simp; try (with_reducible rfl))
        try simp only [Act.put, List.setIfInBounds_toArray, List.set_cons_zero, List.set_cons_succ]
        refine tk1 (v := ?_) (by kernel_rfl) (by kernel_rfl) (by kernel_rfl) (by first | exact fun _ _ _ h => h | exact fun _ _ _ h => absurd h.1 (by simp)) (Or.inl ⟨by rfl, ?_⟩) (by assumption) ?_
        rotate_left 1
        focus (intro wx hSw; (try dsimp only at hSw); go_simp; try (with_reducible rfl))
        try simp only [Act.put, List.setIfInBounds_toArray, List.set_cons_zero, List.set_cons_succ]
        refine tk2 (v := ?_) (by kernel_rfl) (by kernel_rfl) (by kernel_rfl) (by first | exact fun _ _ _ h => h | exact fun _ _ _ h => absurd h.1 (by simp)) (Or.inl ⟨by rfl, ?_⟩) (by assumption) ?_
        rotate_left 1
        focus (intro wx hSw; (try dsimp only at hSw); go_simp; try (with_reducible rfl))
        try simp only [Act.put, List.setIfInBounds_toArray, List.set_cons_zero, List.set_cons_succ]
        refine tk4 (v := ?_) (by kernel_rfl) (by kernel_rfl) (by kernel_rfl) (by first | exact fun _ _ _ h => h | exact fun _ _ _ h => absurd h.1 (by simp)) (Or.inl ⟨by rfl, ?_⟩) (by assumption) ?_
        rotate_left 1
        focus (intro wx hSw; (try dsimp only at hSw); go_simp; try (with_reducible rfl))
        try simp only [Act.put, List.setIfInBounds_toArray, List.set_cons_zero, List.set_cons_succ]
        refine tk5 (v := ?_) (by kernel_rfl) (by kernel_rfl) (by kernel_rfl) (by first | exact fun _ _ _ h => h | exact fun _ _ _ h => absurd h.1 (by simp)) (Or.inl ⟨by rfl, ?_⟩) (by assumption) ?_
        rotate_left 1
        focus (intro wx hSw; (try dsimp only at hSw); go_simp; try (with_reducible rfl))
        try simp only [Act.put, List.setIfInBounds_toArray, List.set_cons_zero, List.set_cons_succ]
        refine tk6 (v := ?_) (by kernel_rfl) (by kernel_rfl) (by kernel_rfl) (by first | exact fun _ _ _ h => h | exact fun _ _ _ h => absurd h.1 (by simp)) (Or.inl ⟨by rfl, ?_⟩) (by assumption) ?_
        rotate_left 1
        focus (intro wx hSw; (try dsimp only at hSw); go_simp; try (with_reducible rfl))
        try simp only [Act.put, List.setIfInBounds_toArray, List.set_cons_zero, List.set_cons_succ]
        refine wpAnyH_ready (rs := [3, 9]) (by kernel_rfl) (by simp) ?_
        refine ar3 (fun K hK => ?_) ?_
        · go_simp
          refine (subset_any b a' P V0 CU0.out (by omega) (by omega) (by omega)).mono ?_
          rintro e V1 ⟨v, a_1, rfl, hs, ha_1, hcu, hg⟩
          obtain ⟨x_1, n_1, c_1, rfl⟩ := hs.form
          have n0_1 := hg.cell n0_0 (by simp; omega)
          have GR1 := Lib.hid (Lib.grownBy_trans GR0.out hg)
          have zv1 := hg.size
          have SN1 := Lib.hid (hs.low (B' := w1.heap.size + 1) (k' := 2) (by omega) (Nat.le_refl _))
          have CU1 := Lib.hid hcu
          clear hs hcu hg
          refine hK.out _ _ n0_1 (fun hHeld => ?_)
          clear hK K
          try simp only [Act.put, List.setIfInBounds_toArray, List.set_cons_zero, List.set_cons_succ]
          refine wpAnyH_ready (rs := [7, 9]) (by kernel_rfl) (by simp) ?_
          refine ar7 (fun K hK => ?_) ?_
          · go_simp
            refine (subset_any b a_1 P V1 CU1.out (by omega) (by omega) (by omega)).mono ?_
            rintro e V2 ⟨v, a_2, rfl, hs, ha_2, hcu, hg⟩
            obtain ⟨x_2, n_2, c_2, rfl⟩ := hs.form
            have n0_2 := hg.cell n0_1 (by simp; omega)
            have GR2 := Lib.hid (Lib.grownBy_trans GR1.out hg)
            have zv2 := hg.size
            have SA2 := Lib.hid (SN1.out.cur hg (by omega))
            have SN2 := Lib.hid (hs.low (B' := w1.heap.size + 1) (k' := 2) (by omega) (Nat.le_refl _))
            have CU2 := Lib.hid hcu
            clear hs hcu hg
            refine hK.out _ _ n0_2 (fun hHeld => ?_)
            clear hK K
            try simp only [Act.put, List.setIfInBounds_toArray, List.set_cons_zero, List.set_cons_succ]
            refine tk8 (v := ?_) (by kernel_rfl) (by kernel_rfl) (by kernel_rfl) (by first | exact fun _ _ _ h => h | exact fun _ _ _ h => absurd h.1 (by simp)) (Or.inl ⟨by rfl, ?_⟩) (by assumption) ?_
            rotate_left 1
            focus (intro wx hSw; (try dsimp only at hSw); go_simp; try (with_reducible rfl))
            try simp only [Act.put, List.setIfInBounds_toArray, List.set_cons_zero, List.set_cons_succ]
            refine rd9 (by kernel_rfl) (fun K hK => ?_)
            go_simp
            have hb : Below V2.heap.size V2 (V2.alloc (.cells #[.slice none 0 0, .slice none 0 0] 64)) := (Below.refl _ _).alloc (Nat.le_refl _) _
            have BT3 := Lib.hid (TBox.new V2 (.slice none 0 0) (.slice none 0 0))
            have CU3 := Lib.hid (CU2.out.below hb)
            have zn3 : V2.heap.size < (V2.alloc (.cells #[.slice none 0 0, .slice none 0 0] 64)).heap.size := by simp
            change K _ (V2.alloc (.cells #[.slice none 0 0, .slice none 0 0] 64))
            generalize (V2.alloc (.cells #[.slice none 0 0, .slice none 0 0] 64)) = V3 at hb BT3 CU3 zn3 ⊢
            have hg : V2.grownBy V3 (some b) := grown_below hb
            have n0_3 := hg.cell n0_2 (by simp; omega)
            have GR3 := Lib.hid (Lib.grownBy_trans GR2.out hg)
            have zv3 := hg.size
            have SA3 := Lib.hid (SA2.out.cur hg (by omega))
            have SB3 := Lib.hid (SN2.out.cur hg (by omega))
            clear hb hg
            refine hK.out _ _ n0_3 (fun hHeld => ?_)
            clear hK K
            try simp only [Act.put, List.setIfInBounds_toArray, List.set_cons_zero, List.set_cons_succ]
            refine rd10 (by kernel_rfl) (fun K hK => ?_)
            obtain ⟨⟨bq0, bq1, bf0, bf1⟩, _⟩ := BT3.out
            go_simp
            have BT4 := ((BT3.out.set0 (.slice x_1 n_1 c_1)).set1 (.slice x_2 n_2 c_2))
            have n0_4 : ((V3.setCell ⟨V2.heap.size, 0, none⟩ (.slice x_1 n_1 c_1)).setCell ⟨V2.heap.size, 1, none⟩ (.slice x_2 n_2 c_2)).cell? ⟨w1.heap.size, 0, none⟩ = some (.int .i64 P) := (World.cell?_setCell_far _ _ _ _ (by simp; omega)).trans ((World.cell?_setCell_far _ _ _ _ (by simp; omega)).trans n0_3)
            have CU4 := (CU3.out.far (q := ⟨V2.heap.size, 0, none⟩) (by show b < V2.heap.size; omega) (.slice x_1 n_1 c_1)).far (q := ⟨V2.heap.size, 1, none⟩) (by show b < V2.heap.size; omega) (.slice x_2 n_2 c_2)
            have GR4 := grown_setNew (grown_setNew GR3.out (q := ⟨V2.heap.size, 0, none⟩) (by show wr.heap.size ≤ V2.heap.size; omega) (.slice x_1 n_1 c_1)) (q := ⟨V2.heap.size, 1, none⟩) (by show wr.heap.size ≤ V2.heap.size; omega) (.slice x_2 n_2 c_2)
            have SA4 := setRow_box SA3.out BT3.out.2 (.slice x_1 n_1 c_1) (.slice x_2 n_2 c_2)
            have SB4 := setRow_box SB3.out BT3.out.2 (.slice x_1 n_1 c_1) (.slice x_2 n_2 c_2)
            generalize ((V3.setCell ⟨V2.heap.size, 0, none⟩ (.slice x_1 n_1 c_1)).setCell ⟨V2.heap.size, 1, none⟩ (.slice x_2 n_2 c_2)) = V4 at BT4 n0_4 CU4 GR4 SA4 SB4 ⊢
            refine hK.out _ _ n0_4 (fun hHeld => ?_)
            clear hK K
            try simp only [Act.put, List.setIfInBounds_toArray, List.set_cons_zero, List.set_cons_succ]
            refine wpAnyH_done (by kernel_rfl) ?_ _
            exact ⟨rfl, _, _, _, _, _, _, _, _, rfl, by omega, BT4, SA4, SB4, by omega, CU4, GR4⟩
          refine ar9 (fun K hK => ?_) ?_
          · go_simp
            have hb : Below V1.heap.size V1 (V1.alloc (.cells #[.slice none 0 0, .slice none 0 0] 64)) := (Below.refl _ _).alloc (Nat.le_refl _) _
            have BT5 := Lib.hid (TBox.new V1 (.slice none 0 0) (.slice none 0 0))
            have CU5 := Lib.hid (CU1.out.below hb)
            have zn5 : V1.heap.size < (V1.alloc (.cells #[.slice none 0 0, .slice none 0 0] 64)).heap.size := by simp
            change K _ (V1.alloc (.cells #[.slice none 0 0, .slice none 0 0] 64))
            generalize (V1.alloc (.cells #[.slice none 0 0, .slice none 0 0] 64)) = V5 at hb BT5 CU5 zn5 ⊢
            have hg : V1.grownBy V5 (some b) := grown_below hb
            have n0_5 := hg.cell n0_1 (by simp; omega)
            have GR5 := Lib.hid (Lib.grownBy_trans GR1.out hg)
            have zv5 := hg.size
            have SA5 := Lib.hid (SN1.out.cur hg (by omega))
            clear hb hg
            refine hK.out _ _ n0_5 (fun hHeld => ?_)
            clear hK K
            try simp only [Act.put, List.setIfInBounds_toArray, List.set_cons_zero, List.set_cons_succ]
            refine rd7 (by kernel_rfl) (fun K hK => ?_)
            go_simp
            refine (subset_any b a_1 P V5 CU5.out (by omega) (by omega) (by omega)).mono ?_
            rintro e V6 ⟨v, a_6, rfl, hs, ha_6, hcu, hg⟩
            obtain ⟨x_6, n_6, c_6, rfl⟩ := hs.form
            have n0_6 := hg.cell n0_5 (by simp; omega)
            have GR6 := Lib.hid (Lib.grownBy_trans GR5.out hg)
            have zv6 := hg.size
            have BT6 := Lib.hid (BT5.out.cur hg (by omega))
            have SA6 := Lib.hid (SA5.out.cur hg (by omega))
            have SN6 := Lib.hid (hs.low (B' := w1.heap.size + 1) (k' := 2) (by omega) (Nat.le_refl _))
            have CU6 := Lib.hid hcu
            clear hs hcu hg
            refine hK.out _ _ n0_6 (fun hHeld => ?_)
            clear hK K
            try simp only [Act.put, List.setIfInBounds_toArray, List.set_cons_zero, List.set_cons_succ]
            refine tk8 (v := ?_) (by kernel_rfl) (by kernel_rfl) (by kernel_rfl) (by first | exact fun _ _ _ h => h | exact fun _ _ _ h => absurd h.1 (by simp)) (Or.inl ⟨by rfl, ?_⟩) (by assumption) ?_
            rotate_left 1
            focus (intro wx hSw; (try dsimp only at hSw); go_simp; try (with_reducible rfl))
            try simp only [Act.put, List.setIfInBounds_toArray, List.set_cons_zero, List.set_cons_succ]
            refine rd10 (by kernel_rfl) (fun K hK => ?_)
            obtain ⟨⟨bq0, bq1, bf0, bf1⟩, _⟩ := BT6.out
            go_simp
            have BT7 := ((BT6.out.set0 (.slice x_1 n_1 c_1)).set1 (.slice x_6 n_6 c_6))
            have n0_7 : ((V6.setCell ⟨V1.heap.size, 0, none⟩ (.slice x_1 n_1 c_1)).setCell ⟨V1.heap.size, 1, none⟩ (.slice x_6 n_6 c_6)).cell? ⟨w1.heap.size, 0, none⟩ = some (.int .i64 P) := (World.cell?_setCell_far _ _ _ _ (by simp; omega)).trans ((World.cell?_setCell_far _ _ _ _ (by simp; omega)).trans n0_6)
            have CU7 := (CU6.out.far (q := ⟨V1.heap.size, 0, none⟩) (by show b < V1.heap.size; omega) (.slice x_1 n_1 c_1)).far (q := ⟨V1.heap.size, 1, none⟩) (by show b < V1.heap.size; omega) (.slice x_6 n_6 c_6)
            have GR7 := grown_setNew (grown_setNew GR6.out (q := ⟨V1.heap.size, 0, none⟩) (by show wr.heap.size ≤ V1.heap.size; omega) (.slice x_1 n_1 c_1)) (q := ⟨V1.heap.size, 1, none⟩) (by show wr.heap.size ≤ V1.heap.size; omega) (.slice x_6 n_6 c_6)
            have SA7 := setRow_box SA6.out BT6.out.2 (.slice x_1 n_1 c_1) (.slice x_6 n_6 c_6)
            have SB7 := setRow_box SN6.out BT6.out.2 (.slice x_1 n_1 c_1) (.slice x_6 n_6 c_6)
            generalize ((V6.setCell ⟨V1.heap.size, 0, none⟩ (.slice x_1 n_1 c_1)).setCell ⟨V1.heap.size, 1, none⟩ (.slice x_6 n_6 c_6)) = V7 at BT7 n0_7 CU7 GR7 SA7 SB7 ⊢
            refine hK.out _ _ n0_7 (fun hHeld => ?_)
            clear hK K
            try simp only [Act.put, List.setIfInBounds_toArray, List.set_cons_zero, List.set_cons_succ]
            refine wpAnyH_done (by kernel_rfl) ?_ _
            exact ⟨rfl, _, _, _, _, _, _, _, _, rfl, by omega, BT7, SA7, SB7, by omega, CU7, GR7⟩
          exact AllReadyH.nil
        refine ar9 (fun K hK => ?_) ?_
        · go_simp
          have hb : Below V0.heap.size V0 (V0.alloc (.cells #[.slice none 0 0, .slice none 0 0] 64)) := (Below.refl _ _).alloc (Nat.le_refl _) _
          have BT8 := Lib.hid (TBox.new V0 (.slice none 0 0) (.slice none 0 0))
          have CU8 := Lib.hid (CU0.out.below hb)
          have zn8 : V0.heap.size < (V0.alloc (.cells #[.slice none 0 0, .slice none 0 0] 64)).heap.size := by simp
          change K _ (V0.alloc (.cells #[.slice none 0 0, .slice none 0 0] 64))
          generalize (V0.alloc (.cells #[.slice none 0 0, .slice none 0 0] 64)) = V8 at hb BT8 CU8 zn8 ⊢
          have hg : V0.grownBy V8 (some b) := grown_below hb
          have n0_8 := hg.cell n0_0 (by simp; omega)
          have GR8 := Lib.hid (Lib.grownBy_trans GR0.out hg)
          have zv8 := hg.size
          clear hb hg
          refine hK.out _ _ n0_8 (fun hHeld => ?_)
          clear hK K
          try simp only [Act.put, List.setIfInBounds_toArray, List.set_cons_zero, List.set_cons_succ]
          refine rd3 (by kernel_rfl) (fun K hK => ?_)
          go_simp
          refine (subset_any b a' P V8 CU8.out (by omega) (by omega) (by omega)).mono ?_
          rintro e V9 ⟨v, a_9, rfl, hs, ha_9, hcu, hg⟩
          obtain ⟨x_9, n_9, c_9, rfl⟩ := hs.form
          have n0_9 := hg.cell n0_8 (by simp; omega)
          have GR9 := Lib.hid (Lib.grownBy_trans GR8.out hg)
          have zv9 := hg.size
          have BT9 := Lib.hid (BT8.out.cur hg (by omega))
          have SN9 := Lib.hid (hs.low (B' := w1.heap.size + 1) (k' := 2) (by omega) (Nat.le_refl _))
          have CU9 := Lib.hid hcu
          clear hs hcu hg
          refine hK.out _ _ n0_9 (fun hHeld => ?_)
          clear hK K
          try simp only [Act.put, List.setIfInBounds_toArray, List.set_cons_zero, List.set_cons_succ]
          refine rd7 (by kernel_rfl) (fun K hK => ?_)
          go_simp
          refine (subset_any b a_9 P V9 CU9.out (by omega) (by omega) (by omega)).mono ?_
          rintro e V10 ⟨v, a_10, rfl, hs, ha_10, hcu, hg⟩
          obtain ⟨x_10, n_10, c_10, rfl⟩ := hs.form
          have n0_10 := hg.cell n0_9 (by simp; omega)
          have GR10 := Lib.hid (Lib.grownBy_trans GR9.out hg)
          have zv10 := hg.size
          have BT10 := Lib.hid (BT9.out.cur hg (by omega))
          have SA10 := Lib.hid (SN9.out.cur hg (by omega))
          have SN10 := Lib.hid (hs.low (B' := w1.heap.size + 1) (k' := 2) (by omega) (Nat.le_refl _))
          have CU10 := Lib.hid hcu
          clear hs hcu hg
          refine hK.out _ _ n0_10 (fun hHeld => ?_)
          clear hK K
          try simp only [Act.put, List.setIfInBounds_toArray, List.set_cons_zero, List.set_cons_succ]
          refine tk8 (v := ?_) (by kernel_rfl) (by kernel_rfl) (by kernel_rfl) (by first | exact fun _ _ _ h => h | exact fun _ _ _ h => absurd h.1 (by simp)) (Or.inl ⟨by rfl, ?_⟩) (by assumption) ?_
          rotate_left 1
          focus (intro wx hSw; (try dsimp only at hSw); go_simp; try (with_reducible rfl))
          try simp only [Act.put, List.setIfInBounds_toArray, List.set_cons_zero, List.set_cons_succ]
          refine rd10 (by kernel_rfl) (fun K hK => ?_)
          obtain ⟨⟨bq0, bq1, bf0, bf1⟩, _⟩ := BT10.out
          go_simp
          have BT11 := ((BT10.out.set0 (.slice x_9 n_9 c_9)).set1 (.slice x_10 n_10 c_10))
          have n0_11 : ((V10.setCell ⟨V0.heap.size, 0, none⟩ (.slice x_9 n_9 c_9)).setCell ⟨V0.heap.size, 1, none⟩ (.slice x_10 n_10 c_10)).cell? ⟨w1.heap.size, 0, none⟩ = some (.int .i64 P) := (World.cell?_setCell_far _ _ _ _ (by simp; omega)).trans ((World.cell?_setCell_far _ _ _ _ (by simp; omega)).trans n0_10)
          have CU11 := (CU10.out.far (q := ⟨V0.heap.size, 0, none⟩) (by show b < V0.heap.size; omega) (.slice x_9 n_9 c_9)).far (q := ⟨V0.heap.size, 1, none⟩) (by show b < V0.heap.size; omega) (.slice x_10 n_10 c_10)
          have GR11 := grown_setNew (grown_setNew GR10.out (q := ⟨V0.heap.size, 0, none⟩) (by show wr.heap.size ≤ V0.heap.size; omega) (.slice x_9 n_9 c_9)) (q := ⟨V0.heap.size, 1, none⟩) (by show wr.heap.size ≤ V0.heap.size; omega) (.slice x_10 n_10 c_10)
          have SA11 := setRow_box SA10.out BT10.out.2 (.slice x_9 n_9 c_9) (.slice x_10 n_10 c_10)
          have SB11 := setRow_box SN10.out BT10.out.2 (.slice x_9 n_9 c_9) (.slice x_10 n_10 c_10)
          generalize ((V10.setCell ⟨V0.heap.size, 0, none⟩ (.slice x_9 n_9 c_9)).setCell ⟨V0.heap.size, 1, none⟩ (.slice x_10 n_10 c_10)) = V11 at BT11 n0_11 CU11 GR11 SA11 SB11 ⊢
          refine hK.out _ _ n0_11 (fun hHeld => ?_)
          clear hK K
          try simp only [Act.put, List.setIfInBounds_toArray, List.set_cons_zero, List.set_cons_succ]
          refine wpAnyH_done (by kernel_rfl) ?_ _
          exact ⟨rfl, _, _, _, _, _, _, _, _, rfl, by omega, BT11, SA11, SB11, by omega, CU11, GR11⟩
        exact AllReadyH.nil
      rintro e a9 w9 ⟨rfl, tb, a4, x0, n0', c0, x1, n1', c1, rfl, htb, hT, hs0, hs1, ha4, hcu, hg⟩
      have hne_u : ∀ q, (Value.slice ua un uc).ownBlock = some q → q < wr.heap.size := fun q hq => by
        obtain ⟨ts, xs, _, _, hr, _⟩ := hnr.out
        exact (hr.lt q hq).2
      have BN9 := Lib.hid (hbn.out.cur hg (by omega))
      have BR9 := Lib.hid (hbr.out.cur hg (by omega))
      have NR9 := Lib.hid (hnr.out.cur hg (by omega))
      have GR9 := Lib.hid (Lib.grownBy_trans hgr.out hg)
      have z9 := hg.size
      have CU9 := Lib.hid hcu
      have HT9 := Lib.hid hT
      have S09 := Lib.hid hs0
      have S19 := Lib.hid hs1
      clear hbn hbr hnr hgr hg hcu hT hs0 hs1 hcur n0
      go_wp2_with fail
      refine (one_any b a4 10 w9 CU9.out (by omega) (by omega) (by omega)).mono ?_
      rintro e w8 ⟨rb, a5, rfl, ha5, hcu, hg⟩
      have BN8 := Lib.hid (BN9.out.cur hg (by omega)); clear BN9
      have BR8 := Lib.hid (BR9.out.cur hg (by omega)); clear BR9
      have NR8 := Lib.hid (NR9.out.cur hg (by omega)); clear NR9
      have GR8 := Lib.hid (Lib.grownBy_trans GR9.out hg); clear GR9
      have HT8 := Lib.hid (HT9.out.cur hg (by omega)); clear HT9
      have S08 := Lib.hid (S09.out.cur hg (by omega)); clear S09
      have S18 := Lib.hid (S19.out.cur hg (by omega)); clear S19
      have z8 := hg.size
      have CU8 := Lib.hid hcu; clear hcu hg CU9
      cases rb with
      | false =>
        obtain ⟨ts, xs, hk_, hl_, hr_, ho_⟩ := NR8.out
        obtain ⟨⟨q0, q1, qf0, qf1⟩, _⟩ := HT8.out
        have n1 := BN8.out.2.1
        have hA : Below w8.heap.size w8 (w8.alloc (.cells #[.slice x0 n0' c0, .slice x1 n1' c1] 64)) := (Below.refl _ _).alloc (Nat.le_refl _) _
        have NBA := BN8.out.after hA
        have BRA := Lib.hid (BR8.out.after hA)
        have CUA := Lib.hid (CU8.out.below hA)
        have GRA := Lib.hid (Lib.grownBy_trans GR8.out (grown_below hA))
        have HRA := Lib.hid (owns_after hr_ hA)
        have HOA := Lib.hid (ho_.after hA)
        have S0A := Lib.hid (S08.out.after hA)
        have S1A := Lib.hid (S18.out.after hA)
        have HKL := Lib.hid (And.intro hk_ hl_)
        have zA : (w8.alloc (.cells #[.slice x0 n0' c0, .slice x1 n1' c1] 64)).heap.size = w8.heap.size + 1 := by simp
        have HNBA := Lib.hid NBA
        have ca0 : (w8.alloc (.cells #[.slice x0 n0' c0, .slice x1 n1' c1] 64)).cell? ⟨w8.heap.size, 0, none⟩ = some (.slice x0 n0' c0) := by first | (have h := (NBox.new w8 (.slice x0 n0' c0) (.slice x1 n1' c1) 64).1; rw [z7] at h; exact h) | simp
        have ca1 : (w8.alloc (.cells #[.slice x0 n0' c0, .slice x1 n1' c1] 64)).cell? ⟨w8.heap.size, 1, none⟩ = some (.slice x1 n1' c1) := by first | (have h := (NBox.new w8 (.slice x0 n0' c0) (.slice x1 n1' c1) 64).2.1; rw [z7] at h; exact h) | simp
        have HCA := Lib.hid (And.intro ca0 ca1); clear ca0 ca1
        clear hr_ ho_ hl_ hA qf0 qf1 NBA
        go_wp2_with (refine wpList_append_pair rfl (.tmp 29) (.tmp 31) rfl (w1.heap.size + 1) _ _ _ rfl HRA.out _ _ _ rfl HCA.out.1 HCA.out.2 rfl rfl (by omega) (by omega) ?_; intro v' w' hown' hgrow; obtain ⟨ya, yc, rfl⟩ := owns_form hown'; have HPU := Lib.hid (NetRow.push HKL.out.1 HKL.out.2 HRA.out HOA.out S0A.out S1A.out hown' hgrow); have hneN : some w1.heap.size ≠ (Value.slice ua un uc).ownBlock := fun e => (by have := (HRA.out.lt _ e.symm).1; omega); have hneW : some w.heap.size ≠ (Value.slice ua un uc).ownBlock := fun e => (by have := (HRA.out.lt _ e.symm).1; omega); have NBP := Lib.hid (HNBA.out.keep (hgrow.block w1.heap.size HNBA.out.old hneN)); have pn1 := NBP.out.2.1; have pf1 := NBP.out.2.2.2; have BRP := Lib.hid (BRA.out.keep (hgrow.block w.heap.size BRA.out.old hneW)); have CUP := Lib.hid (CUA.out.keep (fun x hx hx2 => hgrow.block x hx2 (fun e => (by have := (HRA.out.lt _ e.symm).1; omega)))); have GRP := Lib.hid (grown_row GRA.out hgrow (fun q hq => (by have := (HRA.out.lt _ hq).1; omega))); have zP := hgrow.size; clear hown' hgrow)
        have BNF : NBox w1.heap.size (w'.setCell ⟨w1.heap.size, 1, none⟩ (.slice ya (ts.length + 1) yc)) (.int .i64 P) (.slice ya (ts.length + 1) yc) := NBP.out.set1 _
        have HFIN := Lib.hid (And.intro BNF (And.intro (BRP.out.far (q := ⟨w1.heap.size, 1, none⟩) (by show w1.heap.size ≠ w.heap.size; omega) (.slice ya (ts.length + 1) yc)) (And.intro (HPU.out.setLow (q := ⟨w1.heap.size, 1, none⟩) (Nat.lt_succ_self _) (.slice ya (ts.length + 1) yc)) (And.intro (CUP.out.far (q := ⟨w1.heap.size, 1, none⟩) (by show b < w1.heap.size; omega) (.slice ya (ts.length + 1) yc)) (grown_setNew GRP.out (q := ⟨w1.heap.size, 1, none⟩) (by show w.heap.size ≤ w1.heap.size; omega) (.slice ya (ts.length + 1) yc))))))
        have zF : w1.heap.size < (w'.setCell ⟨w1.heap.size, 1, none⟩ (.slice ya (ts.length + 1) yc)).heap.size := by simp; omega
        clear BNF
        go_wp2_with fail
        go_roundw
        case rel => exact ⟨j - 1, a5, _, by go_num, by omega, by omega, HFIN.out.1, HFIN.out.2.1, HFIN.out.2.2.1.low (Nat.le_refl _) (by omega), HFIN.out.2.2.2.1, HFIN.out.2.2.2.2, zF⟩
        case measure => simp [intOf]; omega
      | true =>
        obtain ⟨⟨k0, k1, kf0, kf1⟩, _⟩ := HT8.out
        have HT7 := Lib.hid (HT8.out.set1 (.slice none 0 0))
        have S07 := Lib.hid (setRow_one (o := 1) S08.out HT8.out.2 (.slice none 0 0))
        have S17 : Hid (SetRow (w1.heap.size + 1) 2 (w8.setCell ⟨tb, 1, none⟩ (.slice none 0 0)) (.slice none 0 0)) := ⟨[], Nat.zero_le _, World.ownsRow_nil _ _ _ _⟩
        have NR7 := Lib.hid (NR8.out.farT (o := 1) HT8.out.2 (fun e => by have := hne_u _ e.symm; omega) (.slice none 0 0))
        have BN7 := Lib.hid (BN8.out.far (q := ⟨tb, 1, none⟩) (by show tb ≠ w1.heap.size; omega) (.slice none 0 0))
        have BR7 := Lib.hid (BR8.out.far (q := ⟨tb, 1, none⟩) (by show tb ≠ w.heap.size; omega) (.slice none 0 0))
        have CU7 := Lib.hid (CU8.out.far (q := ⟨tb, 1, none⟩) (by show b < tb; omega) (.slice none 0 0))
        have GR7 := Lib.hid (grown_setNew GR8.out (q := ⟨tb, 1, none⟩) (by show w.heap.size ≤ tb; omega) (.slice none 0 0))
        have z7 : (w8.setCell ⟨tb, 1, none⟩ (.slice none 0 0)).heap.size = w8.heap.size := by simp
        have n1_8 := BN8.out.2.1
        have hneT : tb ≠ w1.heap.size := by omega
        clear HT8 S08 S18 NR8 BN8 BR8 CU8 GR8
        obtain ⟨ts, xs, hk_, hl_, hr_, ho_⟩ := NR7.out
        obtain ⟨⟨q0, q1, qf0, qf1⟩, _⟩ := HT7.out
        have n1 := BN7.out.2.1
        have hA : Below (w8.setCell ⟨tb, 1, none⟩ (.slice none 0 0)).heap.size (w8.setCell ⟨tb, 1, none⟩ (.slice none 0 0)) ((w8.setCell ⟨tb, 1, none⟩ (.slice none 0 0)).alloc (.cells #[.slice x0 n0' c0, .slice none 0 0] 64)) := (Below.refl _ _).alloc (Nat.le_refl _) _
        have NBA := BN7.out.after hA
        have BRA := Lib.hid (BR7.out.after hA)
        have CUA := Lib.hid (CU7.out.below hA)
        have GRA := Lib.hid (Lib.grownBy_trans GR7.out (grown_below hA))
        have HRA := Lib.hid (owns_after hr_ hA)
        have HOA := Lib.hid (ho_.after hA)
        have S0A := Lib.hid (S07.out.after hA)
        have S1A := Lib.hid (S17.out.after hA)
        have HKL := Lib.hid (And.intro hk_ hl_)
        have zA : ((w8.setCell ⟨tb, 1, none⟩ (.slice none 0 0)).alloc (.cells #[.slice x0 n0' c0, .slice none 0 0] 64)).heap.size = (w8.setCell ⟨tb, 1, none⟩ (.slice none 0 0)).heap.size + 1 := by simp
        have HNBA := Lib.hid NBA
        have ca0 : ((w8.setCell ⟨tb, 1, none⟩ (.slice none 0 0)).alloc (.cells #[.slice x0 n0' c0, .slice none 0 0] 64)).cell? ⟨w8.heap.size, 0, none⟩ = some (.slice x0 n0' c0) := by first | (have h := (NBox.new (w8.setCell ⟨tb, 1, none⟩ (.slice none 0 0)) (.slice x0 n0' c0) (.slice none 0 0) 64).1; rw [z7] at h; exact h) | simp
        have ca1 : ((w8.setCell ⟨tb, 1, none⟩ (.slice none 0 0)).alloc (.cells #[.slice x0 n0' c0, .slice none 0 0] 64)).cell? ⟨w8.heap.size, 1, none⟩ = some (.slice none 0 0) := by first | (have h := (NBox.new (w8.setCell ⟨tb, 1, none⟩ (.slice none 0 0)) (.slice x0 n0' c0) (.slice none 0 0) 64).2.1; rw [z7] at h; exact h) | simp
        have HCA := Lib.hid (And.intro ca0 ca1); clear ca0 ca1
        clear hr_ ho_ hl_ hA qf0 qf1 NBA
        go_wp2_with (refine wpList_append_pair rfl (.tmp 29) (.tmp 31) rfl (w1.heap.size + 1) _ _ _ rfl HRA.out _ _ _ rfl HCA.out.1 HCA.out.2 rfl rfl (by omega) (by omega) ?_; intro v' w' hown' hgrow; obtain ⟨ya, yc, rfl⟩ := owns_form hown'; have HPU := Lib.hid (NetRow.push HKL.out.1 HKL.out.2 HRA.out HOA.out S0A.out S1A.out hown' hgrow); have hneN : some w1.heap.size ≠ (Value.slice ua un uc).ownBlock := fun e => (by have := (HRA.out.lt _ e.symm).1; omega); have hneW : some w.heap.size ≠ (Value.slice ua un uc).ownBlock := fun e => (by have := (HRA.out.lt _ e.symm).1; omega); have NBP := Lib.hid (HNBA.out.keep (hgrow.block w1.heap.size HNBA.out.old hneN)); have pn1 := NBP.out.2.1; have pf1 := NBP.out.2.2.2; have BRP := Lib.hid (BRA.out.keep (hgrow.block w.heap.size BRA.out.old hneW)); have CUP := Lib.hid (CUA.out.keep (fun x hx hx2 => hgrow.block x hx2 (fun e => (by have := (HRA.out.lt _ e.symm).1; omega)))); have GRP := Lib.hid (grown_row GRA.out hgrow (fun q hq => (by have := (HRA.out.lt _ hq).1; omega))); have zP := hgrow.size; clear hown' hgrow)
        have BNF : NBox w1.heap.size (w'.setCell ⟨w1.heap.size, 1, none⟩ (.slice ya (ts.length + 1) yc)) (.int .i64 P) (.slice ya (ts.length + 1) yc) := NBP.out.set1 _
        have HFIN := Lib.hid (And.intro BNF (And.intro (BRP.out.far (q := ⟨w1.heap.size, 1, none⟩) (by show w1.heap.size ≠ w.heap.size; omega) (.slice ya (ts.length + 1) yc)) (And.intro (HPU.out.setLow (q := ⟨w1.heap.size, 1, none⟩) (Nat.lt_succ_self _) (.slice ya (ts.length + 1) yc)) (And.intro (CUP.out.far (q := ⟨w1.heap.size, 1, none⟩) (by show b < w1.heap.size; omega) (.slice ya (ts.length + 1) yc)) (grown_setNew GRP.out (q := ⟨w1.heap.size, 1, none⟩) (by show w.heap.size ≤ w1.heap.size; omega) (.slice ya (ts.length + 1) yc))))))
        have zF : w1.heap.size < (w'.setCell ⟨w1.heap.size, 1, none⟩ (.slice ya (ts.length + 1) yc)).heap.size := by simp; omega
        clear BNF
        go_wp2_with fail
        go_roundw
        case rel => exact ⟨j - 1, a5, _, by go_num, by omega, by omega, HFIN.out.1, HFIN.out.2.1, HFIN.out.2.2.1.low (Nat.le_refl _) (by omega), HFIN.out.2.2.2.1, HFIN.out.2.2.2.2, zF⟩
        case measure => simp [intOf]; omega
    · have h00 : j = 0 := by omega
      subst h00
      obtain ⟨n0, n1, _, _⟩ := hbn.out
      obtain ⟨r0, r1, rf0, rf1⟩ := hbr.out
      have BRF := Lib.hid ((hbr.out.set0 (.int .i64 P)).set1 (.slice ua un uc))
      have NRF := Lib.hid ((hnr.out.setLow (q := ⟨w.heap.size, 0, none⟩) (by show w.heap.size < _; omega) (.int .i64 P)).setLow (q := ⟨w.heap.size, 1, none⟩) (by show w.heap.size < _; omega) (.slice ua un uc))
      have CUF := Lib.hid ((hcur.out.far (q := ⟨w.heap.size, 0, none⟩) hbo (.int .i64 P)).far (q := ⟨w.heap.size, 1, none⟩) hbo (.slice ua un uc))
      have GRF := Lib.hid (grown_setNew (grown_setNew hgr.out (q := ⟨w.heap.size, 0, none⟩) (Nat.le_refl _) (.int .i64 P)) (q := ⟨w.heap.size, 1, none⟩) (Nat.le_refl _) (.slice ua un uc))
      clear hbn hbr hnr hcur hgr
      go_wp2_with fail
      generalize ((wr.setCell ⟨w.heap.size, 0, none⟩ (.int .i64 P)).setCell ⟨w.heap.size, 1, none⟩ (.slice ua un uc)) = WX at BRF NRF CUF GRF ⊢
      obtain ⟨q0, q1, _, _⟩ := BRF.out
      refine bodyPost_ret (v := .agg #[.int .i64 P, .slice ua un uc]) (by simp [results, Try.results140, go_sem, q0, q1]) rfl ?_
      exact ⟨_, _, a', rfl, p0, p1, NRF.out.low (by omega) (by omega), by omega, CUF.out, GRF.out⟩

end Go.Proofs.Ytkkfglolameogaa
