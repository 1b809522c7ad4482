/- WALKS: copyInts, ReverseNet of the program and of the model. -/
import Derived.Laws.CopyOwn
import Derived.Test.YtgmnknlnlmcmfaaVApp
import Derived.Test.YtgmnknlnlmcmfaaVSep
import Derived.Test.YtgmnknlnlmcmfaaVImpl
namespace Go.Proofs.Ytgmnknlnlmcmfaa
open Go.RowKit

theorem Try.sizeInt : (Try.prog.info? 3).map (·.size) = some 1 := by kernel_rfl

theorem run_copy_ints (w : World) (ty : TypeId) (b lo : Nat) (zs : List Int) (f : Nat → Value) (hrow : w.rowIs b 3 zs.length f) (src : Value) (hsrc : IntsAt lo w src zs) :
    ∃ w', (Builtin.copy_ #[28, 28] ty #[.slice (some ⟨b, 0, none⟩) zs.length zs.length, src]).run Try.prog w = .ok (goInt zs.length) w' ∧ w'.rowIs b 3 zs.length (fun j => .int .i64 (zs.getD j 0)) ∧ ∀ B a, B ≤ b → Below B a w → Below B a w' := by
  obtain ⟨ao, cap, rfl, hc, hz⟩ := hsrc
  rcases hz with rfl | ⟨b', off, rfl, _, hcell⟩
  · exact ⟨w, run_copy_none w _ _ _ _ _ _ _ _ _ _ Try.underlying28 Try.sizeInt (by simp), hrow.congr (fun i hi => absurd hi (Nat.not_lt_zero _)), fun _ _ _ h => h⟩
  · obtain ⟨cur, hb, hsz, _⟩ := hrow
    have hr := run_copy_row (P := Try.prog) w 28 28 ty 3 b 0 zs.length zs.length ⟨b', off, none⟩ zs.length cap cur 3 (intCells zs) Try.underlying28 Try.sizeInt hb (by rw [intCells_length]; simp)
      (fun j u hj => by
        have hjl : j < zs.length := by rw [← intCells_length]; exact (List.getElem?_eq_some_iff.1 hj).1
        rw [intCells_get hjl] at hj
        rw [Addr.add_mid, hcell j hjl]
        exact hj) (by rw [intCells_length]; omega) (intCells_one zs)
    rw [intCells_length] at hr
    refine ⟨_, hr, ⟨_, setRow_heap _ _ _ _ _ _ hb, ?_, fun i hi => ?_⟩, fun B a hB h => below_setRow h hB _⟩
    · simp [intCells_length, hsz]
    · have hd : cur.toList.drop (0 + zs.length) = [] := List.drop_eq_nil_of_le (by simp [hsz])
      rw [hd, List.take_zero, List.nil_append, List.append_nil]
      simpa using intCells_get hi

theorem wpList_copy_ints {ops : Array Oper} {rest : List Oper} {o : Oper} {a : Act} {w : World} {Q : Exit → Act → World → Prop} (hgd : o.guard = none) (d x : Operand)
    (ho : o.op = .call { callee := .builtin .copy, args := #[d, x], argTypes := #[28, 28] }) (b lo : Nat) (zs : List Int) (f : Nat → Value) (hd : a.eval d = .slice (some ⟨b, 0, none⟩) zs.length zs.length) (hrow : w.rowIs b 3 zs.length f)
    (src : Value) (hx : a.eval x = src) (hsrc : IntsAt lo w src zs)
    (h : ∀ w', w'.rowIs b 3 zs.length (fun j => .int .i64 (zs.getD j 0)) → (∀ B a, B ≤ b → Below B a w → Below B a w') → wpList Try.prog ops Q rest (a.put o.dst (goInt zs.length)) w') : wpList Try.prog ops Q (o :: rest) a w :=
  wpList_plain hgd fun _ hK => by
    obtain ⟨w', hr, h2, h3⟩ := run_copy_ints w o.type b lo zs f hrow src hsrc
    unfold Oper.wp execOp
    simp only [ho, resolve, invoke, builtin, Sem.run_bind, Sem.run_pure, Result.andThen_ok, List.map_toArray, List.map_cons, List.map_nil, hd, hx, hr]
    exact hK _ _ (h w' h2 h3)

set_option maxRecDepth 100000 in
set_option maxHeartbeats 400000 in
theorem copyInts_any (v : Value) (zs : List Int) (w : World) (lo : Nat) (hv : IntsAt lo w v zs) (hn : zs.length ≤ 1048576) :
    Calls Try.prog 225 #[v] w (RetIntsO w zs) := by
  have hv' := hv
  obtain ⟨ao, cap, rfl, _, _⟩ := hv'
  have HV := Lib.hid hv; clear hv
  have hmk := run_make_row' (P := Try.prog) 28 3 (.int .i64 0) 8 Try.underlying28 Try.infoInt rfl .i64 .i64 zs.length (by omega) (by omega)
  have hrow := (World.rowIs_made w (.int .i64 0) zs.length 3)
  have HR := Lib.hid hrow; clear hrow
  have HVA := Lib.hid (HV.out.keep (Carries.alloc (Carries.refl lo w) (.cells (madeCells #[.int .i64 0] zs.length) 3)))
  go_enter Try.func225, Try.ntmps225
  go_wp2_with (refine wpList_copy_ints rfl (.tmp 7) (.tmp 8) rfl w.heap.size lo zs _ rfl HR.out _ rfl HVA.out ?_; intro w' hrow' hbel)
  go_ret
  exact ⟨_, rfl, ow_of_row hrow' (fun _ _ => rfl), hbel _ _ (Nat.le_refl _) ((Below.refl _ _).alloc (Nat.le_refl _) _)⟩

/-- the first k transitions lie in the row R, their lists apart, each between two of the numbers c -/
def SepRow (c : Nat → Nat) (R : Nat) (w : World) (m k : Nat) (ts : List Tr) : Prop :=
  (∀ i, c i ≤ c (i + 1)) ∧ ∃ f, w.rowIs R 176 (m * 2) f ∧ ∀ i, i < k →
    (IntsOw (c (2 * i)) w (f (i * 2)) (ts.getD i ([], [])).1 ∧ Bound (c (2 * i + 1)) (f (i * 2))) ∧ IntsOw (c (2 * i + 1)) w (f (i * 2 + 1)) (ts.getD i ([], [])).2 ∧ Bound (c (2 * i + 2)) (f (i * 2 + 1))
theorem SepRow.keep {c : Nat → Nat} {R : Nat} {w w' : World} {m k : Nat} {ts : List Tr} (h : SepRow c R w m k ts) (hb : Below w.heap.size w w') : SepRow c R w' m k ts := by
  obtain ⟨hc, f, hr, hx⟩ := h
  refine ⟨hc, f, hr.of_block (hb.block _ hr.lt), fun i hi => ?_⟩
  obtain ⟨⟨h0, b0⟩, h1, b1⟩ := hx i hi
  exact ⟨⟨h0.keep (Same.of _ hb), b0⟩, h1.keep (Same.of _ hb), b1⟩
theorem SepRow.cells {c : Nat → Nat} {R : Nat} {w : World} {m k : Nat} {ts : List Tr} (h : SepRow c R w m k ts) {i : Nat} (hi : i < m) : ∃ v0 v1, w.cell? ⟨R, i * 2, none⟩ = some v0 ∧ w.cell? ⟨R, i * 2 + 1, none⟩ = some v1 ∧ w.frozen? ⟨R, i * 2, none⟩ = false ∧ w.frozen? ⟨R, i * 2 + 1, none⟩ = false := by
  obtain ⟨_, f, hr, _⟩ := h
  exact ⟨_, _, hr.cell (by omega), hr.cell (by omega), hr.frozen _, hr.frozen _⟩
theorem SepRow.read {c : Nat → Nat} {R : Nat} {w : World} {ts : List Tr} (h : SepRow c R w ts.length ts.length ts) : TrsSep c w (.slice (some ⟨R, 0, none⟩) ts.length ts.length) ts := by
  obtain ⟨hc, f, hr, hx⟩ := h
  refine ⟨hc, _, _, rfl, Nat.le_refl _, Or.inr ⟨R, 0, rfl, fun i hi => ⟨_, _, ?_, ?_, hx i hi⟩⟩⟩
  · rw [Nat.zero_add]; exact hr.cell (by omega)
  · rw [Nat.zero_add]; exact hr.cell (by omega)
theorem SepRow.put {c : Nat → Nat} {R s0 s1 s2 : Nat} {w : World} {m k : Nat} {ts : List Tr} (h : SepRow c R w m k ts) {v0 v1 : Value} (hk : k < m) (hR : R < c 0) (hs : ∀ i, c i ≤ s0) (h01 : s0 ≤ s1) (h12 : s1 ≤ s2)
    (h0 : IntsOw s0 w v0 (ts.getD k ([], [])).1) (b0 : Bound s1 v0) (h1 : IntsOw s1 w v1 (ts.getD k ([], [])).2) (b1 : Bound s2 v1) :
    ∃ c' : Nat → Nat, c' 0 = c 0 ∧ (∀ i, c' i ≤ s2) ∧ SepRow c' R ((w.setCell ⟨R, k * 2, none⟩ v0).setCell ⟨R, k * 2 + 1, none⟩ v1) m (k + 1) ts := by
  obtain ⟨hc, f, hr, hx⟩ := h
  have hl : ∀ i, R < c i := fun i => Nat.lt_of_lt_of_le hR (mono_le hc (Nat.zero_le i))
  have hS : ∀ l, R < l → Same l w ((w.setCell ⟨R, k * 2, none⟩ v0).setCell ⟨R, k * 2 + 1, none⟩ v1) := fun l hl => ((Same.refl l w).set hl v0).set hl v1
  refine ⟨fun i => if i ≤ 2 * k then c i else if i = 2 * k + 1 then s1 else s2, by simp, fun i => ?_, fun i => ?_, _, (hr.set (k * 2) v0).set (k * 2 + 1) v1, fun i hi => ?_⟩
  · have := hs i
    dsimp only
    split
    · omega
    · split <;> omega
  · have h4 := hc i
    have h5 := hs i
    dsimp only
    by_cases e1 : i + 1 ≤ 2 * k
    · rw [if_pos (by omega), if_pos e1]; exact h4
    · rw [if_neg e1]
      by_cases e2 : i ≤ 2 * k
      · rw [if_pos e2, if_pos (by omega)]; omega
      · rw [if_neg e2]
        by_cases e3 : i = 2 * k + 1
        · rw [if_pos e3, if_neg (by omega)]; exact h12
        · rw [if_neg e3, if_neg (by omega)]; exact Nat.le_refl _
  · by_cases e : i = k
    · subst e
      simp only [if_pos (Nat.le_refl (2 * i)), if_neg (show ¬ 2 * i + 1 ≤ 2 * i by omega), if_neg (show ¬ 2 * i + 2 ≤ 2 * i by omega), if_neg (show ¬ 2 * i + 2 = 2 * i + 1 by omega), if_pos (rfl : 2 * i + 1 = 2 * i + 1), if_neg (show ¬ i * 2 = i * 2 + 1 by omega), if_true]
      exact ⟨⟨(h0.keep (hS _ (by have := hl 0; have := hs 0; omega))).low (hs _), b0⟩, h1.keep (hS _ (by have := hl 0; have := hs 0; omega)), b1⟩
    · have q1 : ¬ i * 2 = k * 2 + 1 := by omega
      have q2 : ¬ i * 2 = k * 2 := by omega
      have q3 : ¬ i * 2 + 1 = k * 2 + 1 := by omega
      have q4 : ¬ i * 2 + 1 = k * 2 := by omega
      simp only [if_pos (show 2 * i ≤ 2 * k by omega), if_pos (show 2 * i + 1 ≤ 2 * k by omega), if_pos (show 2 * i + 2 ≤ 2 * k by omega), if_neg q1, if_neg q2, if_neg q3, if_neg q4]
      obtain ⟨⟨g0, d0⟩, g1, d1⟩ := hx i (by omega)
      exact ⟨⟨g0.keep (hS _ (hl _)), d0⟩, g1.keep (hS _ (hl _)), d1⟩

theorem TrsSep.at {c : Nat → Nat} {w : World} {v : Value} {ts : List Tr} (h : TrsSep c w v ts) : TrsAt 0 w v ts := by
  obtain ⟨hc, ao, cap, hv, hcap, hz⟩ := h
  refine ⟨ao, cap, hv, hcap, ?_⟩
  rcases hz with hz | ⟨b, off, ha, hcell⟩
  · exact Or.inl hz
  · refine Or.inr ⟨b, off, ha, Nat.zero_le _, fun i hi => ?_⟩
    obtain ⟨v0, v1, c0, c1, ⟨h0, _⟩, h1, _⟩ := hcell i hi
    exact ⟨v0, v1, c0, c1, h0.at.low (Nat.zero_le _), h1.at.low (Nat.zero_le _)⟩

theorem SepRow.far {c : Nat → Nat} {R : Nat} {w : World} {m k : Nat} {ts : List Tr} (h : SepRow c R w m k ts) {p : Addr} (hR : p.block < R) (hc0 : p.block < c 0) (u : Value) : SepRow c R (w.setCell p u) m k ts := by
  obtain ⟨hc, f, hr, hx⟩ := h
  have hl : ∀ i, p.block < c i := fun i => Nat.lt_of_lt_of_le hc0 (mono_le hc (Nat.zero_le i))
  refine ⟨hc, f, hr.setOther (Nat.ne_of_gt hR) u, fun i hi => ?_⟩
  obtain ⟨⟨h0, b0⟩, h1, b1⟩ := hx i hi
  exact ⟨⟨h0.keep ((Same.refl _ w).set (hl _) u), b0⟩, h1.keep ((Same.refl _ w).set (hl _) u), b1⟩

end Go.Proofs.Ytgmnknlnlmcmfaa
