/- ROWS of events whose lists are rows of the call's own (the model's), and an unfolding that grows in its block. -/
import Derived.Test.YtigkgfdnnfmmmaaGreatVHib
import Derived.Test.YtigkgfdnnfmmmaaGreatVUfr
import Derived.Test.YtigkgfdnnfmmmaaGreatVPcl
namespace Go.Proofs.YtigkgfdnnfmmmaaGreat
open Go.RowKit

def MRow (B : Nat) (w : World) (v : Value) (es : List Ev) : Prop :=
  ∃ xs, w.ownsRow B 46 2 v es.length xs ∧ ∀ i, i < es.length → ∃ u, xs[i * 2]? = some (.int .i64 (evT es i)) ∧ xs[i * 2 + 1]? = some u ∧ IRow B w u (evP es i)
theorem MRow.nil (B : Nat) (w : World) : MRow B w (.slice none 0 0) [] := ⟨[], World.ownsRow_nil _ _ _ _, fun i hi => absurd hi (Nat.not_lt_zero _)⟩
theorem MRow.form {B : Nat} {w : World} {v : Value} {ms : List Ev} (h : MRow B w v ms) : ∃ a c, v = .slice a ms.length c := by
  obtain ⟨xs, h, _⟩ := h
  exact owns_form h
theorem MRow.after {B : Nat} {w w' : World} {v : Value} {es : List Ev} (h : MRow B w v es) (hb : Below w.heap.size w w') : MRow B w' v es := by
  obtain ⟨xs, h1, h2⟩ := h
  refine ⟨xs, owns_after h1 hb, fun i hi => ?_⟩
  obtain ⟨u, a, b, c⟩ := h2 i hi
  exact ⟨u, a, b, owns_after c hb⟩
theorem MRow.grownT {B B' s n : Nat} {w w' : World} {t : TypeId} {v v' : Value} {xs : List Value} {es : List Ev} (h : MRow B w v es) (hx : w.ownsRow B' t s v' n xs) (h1 : 46 ≠ t) (h2 : 3 ≠ t) (hg : w.grownBy w' v'.ownBlock) : MRow B w' v es := by
  obtain ⟨ys, k1, k2⟩ := h
  refine ⟨ys, k1.kept hg (rows_apartT k1 hx h1), fun i hi => ?_⟩
  obtain ⟨u, a, b, c⟩ := k2 i hi
  exact ⟨u, a, b, c.kept hg (rows_apartT c hx h2)⟩
theorem MRow.setT {B : Nat} {w : World} {t : TypeId} {v : Value} {es : List Ev} (h : MRow B w v es) {p : Addr} (hT : TyAt w p.block t) (h1 : 46 ≠ t) (h2 : 3 ≠ t) (u : Value) : MRow B (w.setCell p u) v es := by
  obtain ⟨ys, k1, k2⟩ := h
  refine ⟨ys, owns_setT k1 hT h1 u, fun i hi => ?_⟩
  obtain ⟨x, a, b, c⟩ := k2 i hi
  exact ⟨x, a, b, owns_setT c hT h2 u⟩
theorem MRow.push {B : Nat} {w w' : World} {v v' vq : Value} {xs : List Value} {es : List Ev} {t : Int} {L : List Int} (hx : w.ownsRow B 46 2 v es.length xs)
    (hc : ∀ i, i < es.length → ∃ u, xs[i * 2]? = some (.int .i64 (evT es i)) ∧ xs[i * 2 + 1]? = some u ∧ IRow B w u (evP es i))
    (hown : w'.ownsRow B 46 2 v' (es.length + 1) (xs ++ [.int .i64 t, vq])) (hg : w.grownBy w' v.ownBlock) (hq : IRow B w vq L) :
    MRow B w' v' (es ++ [(t, L)]) := by
  have hl : xs.length = es.length * 2 := hx.1
  refine ⟨xs ++ [.int .i64 t, vq], by rw [List.length_append]; exact hown, fun i hi => ?_⟩
  have keep : ∀ u zs, IRow B w u zs → IRow B w' u zs := fun u zs h => h.kept hg (rows_apartT h hx (by decide))
  by_cases e : i < es.length
  · obtain ⟨a1, a2⟩ := ev_app_left (t := t) (L := L) e
    obtain ⟨u, k0, k1, kr⟩ := hc i e
    rw [a1, a2]
    exact ⟨u, by rw [List.getElem?_append_left (by omega)]; exact k0, by rw [List.getElem?_append_left (by omega)]; exact k1, keep _ _ kr⟩
  · have e2 : i = es.length := by simp at hi; omega
    subst e2
    obtain ⟨a1, a2⟩ := ev_app_last (es := es) (t := t) (L := L)
    rw [a1, a2]
    refine ⟨vq, ?_, ?_, keep _ _ hq⟩
    · rw [List.getElem?_append_right (by omega), hl]; simp
    · rw [List.getElem?_append_right (by omega), hl]; simp
theorem MRow.at {B : Nat} {w : World} {v : Value} {es : List Ev} (h : MRow B w v es) : EvsAt B w v es := by
  obtain ⟨xs, h1, h2⟩ := h
  have h0 := h1
  rcases h1.2 with ⟨rfl, hn⟩ | ⟨g, cap, cur, rfl, hb, hg, hnc, _⟩
  · exact ⟨none, 0, by rw [hn], by omega, Or.inl hn⟩
  · refine ⟨_, _, rfl, hnc, Or.inr ⟨g, 0, rfl, hb, fun i hi => ?_⟩⟩
    obtain ⟨u, a, b, c⟩ := h2 i hi
    refine ⟨u, ?_, ?_, ints_of_owns c⟩
    · rw [Nat.zero_add, h0.cellAt (i * 2) (by omega)]; exact a
    · rw [Nat.zero_add, h0.cellAt (i * 2 + 1) (by omega)]; exact b

theorem cn_pair {x y : Int → Value} (hx : ∀ z, x z = .int .i64 z) (hy : ∀ z, y z = .int .i64 z) : ∀ cs : List Cnd, pairCells (fun i => x (cnP cs i)) (fun i => y (cnB cs i)) cs.length = cnCells cs := fun cs => by
  apply List.ext_getElem?
  intro j
  by_cases h : j < cs.length * 2
  · obtain ⟨p0, p1⟩ := pairCells_get (fun i => x (cnP cs i)) (fun i => y (cnB cs i)) cs.length (j / 2) (by omega)
    obtain ⟨c0, c1⟩ := cnCells_get cs (j / 2) (by omega)
    rcases Nat.mod_two_eq_zero_or_one j with hm | hm
    · rw [show j / 2 * 2 = j by omega] at p0 c0
      rw [p0, c0, hx]
    · rw [show j / 2 * 2 + 1 = j by omega] at p1 c1
      rw [p1, c1, hy]
  · rw [List.getElem?_eq_none (by rw [pairCells_length]; omega), List.getElem?_eq_none (by rw [cnCells_length]; omega)]

/-- many conditions are appended -/
theorem wpList_append_cnds {ops : Array Oper} {rest : List Oper} {o : Oper} {a : Act} {w : World} {Q : Exit → Act → World → Prop} (hgd : o.guard = none) (s x : Operand)
    (ho : o.op = .call { callee := .builtin .append, args := #[s, x], argTypes := #[35, 35] })
    (base lo : Nat) (v : Value) (xs : List Cnd) (hs : a.eval s = v) (hown : CRow base w v xs) (src : Value) (cs : List Cnd) (hx : a.eval x = src) (hsrc : CndsAt lo w src cs)
    (hlen : xs.length + cs.length ≤ 1073741824) (hbase : base ≤ w.heap.size)
    (h : ∀ v' w', CRow base w' v' (xs ++ cs) → w.grownBy w' v.ownBlock → wpList Tryz.prog ops Q rest (a.put o.dst v') w') : wpList Tryz.prog ops Q (o :: rest) a w :=
  wpList_plain hgd fun _ hK => by
    obtain ⟨v', w', hr, h2, h3⟩ := run_append_pairs 35 96 _ 16 Tryz.underlying35 Tryz.infoCnd rfl (by omega) w o.type base lo v xs.length _ hown src cs.length _ _ hsrc (fun _ => rfl) (fun _ => rfl) hlen hbase
    unfold Oper.wp execOp
    simp only [ho, resolve, invoke, builtin, Sem.run_bind, Sem.run_pure, Result.andThen_ok, List.map_toArray, List.map_cons, List.map_nil, hs, hx, hr]
    refine hK _ _ (h v' w' ?_ h3)
    have e := cn_pair (x := fun z => .int .i64 z) (y := fun z => .int .i64 z) (fun _ => rfl) (fun _ => rfl) cs
    try dsimp only at e
    rw [e] at h2
    show w'.ownsRow base _ 2 _ (xs ++ cs).length (cnCells (xs ++ cs))
    rw [cnCells_append, List.length_append]
    exact h2

/-- an unfolding in block O, its rows from block B on -/
structure OutAt (B O : Nat) (w : World) (vc ve : Value) (cs : List Cnd) (es : List Ev) : Prop where
  o0 : w.cell? ⟨O, 0, none⟩ = some vc
  o1 : w.cell? ⟨O, 1, none⟩ = some ve
  fr : ∀ i, w.frozen? ⟨O, i, none⟩ = false
  ty : TyAt w O 38
  bO : B ≤ O
  rc : CRow B w vc cs
  rm : MRow B w ve es
theorem OutAt.after {B O : Nat} {w w' : World} {vc ve : Value} {cs : List Cnd} {es : List Ev} (h : OutAt B O w vc ve cs es) (hb : Below w.heap.size w w') : OutAt B O w' vc ve cs es :=
  ⟨cell_carry h.o0 (Carries.of 0 hb), cell_carry h.o1 (Carries.of 0 hb), fun i => (hb.frozen (p := ⟨O, i, none⟩) h.ty.lt).trans (h.fr i), h.ty.keep hb, h.bO, owns_after h.rc hb, h.rm.after hb⟩
theorem OutAt.mid {B O B' s n : Nat} {w w' : World} {vc ve : Value} {cs : List Cnd} {es : List Ev} (h : OutAt B O w vc ve cs es) {t : TypeId} {v : Value} {xs : List Value} (hx : w.ownsRow B' t s v n xs) (hne : t ≠ 38) (hg : w.grownBy w' v.ownBlock) :
    (w'.cell? ⟨O, 0, none⟩ = some vc ∧ w'.cell? ⟨O, 1, none⟩ = some ve) ∧ (∀ i, w'.frozen? ⟨O, i, none⟩ = false) ∧ TyAt w' O 38 := by
  have hn := owns_ne hx h.ty hne
  exact ⟨⟨hg.cell h.o0 hn, hg.cell h.o1 hn⟩, fun i => (World.frozen?_of_block (a := ⟨O, i, none⟩) (hg.block O h.ty.lt hn)).trans (h.fr i), h.ty.grown hg hn⟩
theorem OutAt.pushC {B O : Nat} {w w' : World} {vc ve v' : Value} {cs cs' : List Cnd} {es : List Ev} (h : OutAt B O w vc ve cs es) (hown : CRow B w' v' cs') (hg : w.grownBy w' vc.ownBlock) : OutAt B O (w'.setCell ⟨O, 0, none⟩ v') v' ve cs' es := by
  obtain ⟨⟨k0, k1⟩, kf, kT⟩ := h.mid h.rc (by decide) hg
  refine ⟨World.cell?_setCell_same _ _ _ k0, cell_set_far k1 (by decide), fun i => by rw [World.frozen?_setCell]; exact kf i, kT.set _ _, h.bO, ?_, ?_⟩
  · exact owns_setT hown (p := ⟨O, 0, none⟩) kT (by decide) _
  · exact (h.rm.grownT h.rc (by decide) (by decide) hg).setT (p := ⟨O, 0, none⟩) kT (by decide) (by decide) _
theorem OutAt.pushM {B O m : Nat} {w w' : World} {vc ve v' : Value} {cs : List Cnd} {es es' : List Ev} {xs : List Value} (h : OutAt B O w vc ve cs es) (hx : w.ownsRow B 46 2 ve m xs) (hown : MRow B w' v' es') (hg : w.grownBy w' ve.ownBlock) : OutAt B O (w'.setCell ⟨O, 1, none⟩ v') vc v' cs es' := by
  obtain ⟨⟨k0, k1⟩, kf, kT⟩ := h.mid hx (by decide) hg
  refine ⟨cell_set_far k0 (by decide), World.cell?_setCell_same _ _ _ k1, fun i => by rw [World.frozen?_setCell]; exact kf i, kT.set _ _, h.bO, ?_, ?_⟩
  · exact owns_setT (h.rc.kept hg (rows_apartT h.rc hx (by decide))) (p := ⟨O, 1, none⟩) kT (by decide) _
  · exact hown.setT (p := ⟨O, 1, none⟩) kT (by decide) (by decide) _

end Go.Proofs.YtigkgfdnnfmmmaaGreat
