/- WALKS: pairs; slices.AppendSeq and slices.Collect over its iterator.
   WALKS: a row appended to a row of rows; pairs that an iterator gave as rows. -/
import Derived.Test.YtgmnknlnlmcmfaaVPri
import Derived.Test.YtgmnknlnlmcmfaaVRwd
namespace Go.Proofs.Ytgmnknlnlmcmfaa
open Go.RowKit Go.Shelf
attribute [local go_sem] Oper.semAt_some

theorem Tells.later {α : Type} {n : Nat} {P : Program} {g : Nat} {lb : Array Value} {encs : α → Array Value} {Kp : World → World → Prop} {S : List α → World → Prop} {Sp : List α → Prop} {N : Nat} {w w' : World}
    (h : Tells n P g lb encs Kp S Sp N w) (hb : Below w.heap.size w w') : Tells n P g lb encs Kp S Sp N w' :=
  fun l J Jx W hW hJ hJx hY h0 => h l J Jx W (hb.trans (hW.mono hb.size)) hJ hJx hY h0

set_option maxHeartbeats 1000000 in
/-- pairs boxes its two arguments and hands back the iterator -/
theorem pairs_any (m : Int) (Fc : Nat) (pre caps : Array Value) (w : World) :
    Calls Try.prog 69 #[.int .i64 m, .func (.func Fc) pre caps] w (fun e w' => e = .returned (.func (.func 126) #[] #[.pointer (some ⟨w.heap.size, 0, none⟩), .pointer (some ⟨w.heap.size + 1, 0, none⟩)]) ∧ w' = (w.alloc (.cells #[.int .i64 m] 3)).alloc (.cells #[.func (.func Fc) pre caps] 100)) := by
  refine (callsIn_wide (n := 3)).1 ?_
  refine callsIn_of_wp Try.func69 rfl trivial ?_ rfl
  simp only [Try.ntmps69, List.size_toArray, List.length_cons, List.length_nil, Nat.reduceAdd, Nat.reduceSub, Array.replicate_succ, Array.replicate_zero, List.push_toArray, List.append_toArray, List.nil_append, List.cons_append]
  gi_wp2
  go_ret
  exact ⟨rfl, rfl⟩

theorem owns_not_int {W : World} {B : Nat} {v : Value} {n : Nat} {xs : List Value} (h : W.ownsRow B 28 1 v n xs) {b : Nat} {cur : Array Value} {f : Nat × Nat} (e : W.heap[b]? = some (Obj.cells cur 3 f)) : some b ≠ v.ownBlock := by
  rcases h.2 with ⟨rfl, _⟩ | ⟨g, cap, cur', rfl, _, hg, _⟩
  · simp [Value.ownBlock]
  · intro e2
    simp only [Value.ownBlock, Option.some.injEq] at e2
    subst e2
    rw [e] at hg
    cases hg

set_option maxRecDepth 100000 in
set_option maxHeartbeats 4000000 in
/-- what an iterator of pairs tells, appended to nil -/
theorem AppendSeq_any (n : Nat) (hn : 3 ≤ n) (gf : Nat) (lb : Array Value) (w w0 : World) (S : List Pr → World → Prop) (Sp : List Pr → Prop) (N : Nat) (hN : N ≤ 1073741824)
    (eg : ∀ (args : Array Value) (w : World), (callFunc gf args).run Try.prog w = .ok (.enter gf args) w) (hb0 : Below w0.heap.size w0 w) (hS : ∀ D, OwnFrom D S)
    (hT : Tells (n - 1) Try.prog gf lb (fun x : Pr => #[prV x]) (PrKp w0.heap.size) S Sp N w) :
    CallsIn Fence.wide n Try.prog 125 #[.slice none 0 0, .func (.func gf) #[] lb] w fun e w' => ∃ v xs, e = .returned v ∧ S xs w' ∧ w'.ownsRow w.heap.size 28 1 v xs.length (xs.map prV) ∧ Below w.heap.size w w' := by
  have h1 : 1 ≤ n := by omega
  have zb := hb0.size
  obtain ⟨i0, hi, hz0, hz1, hz2⟩ := info_parts Try.infoInts
  refine callsIn_of_wp_marks Try.func125 rfl trivial ?_ rfl
  simp only [Try.ntmps125, List.size_toArray, List.length_cons, List.length_nil, Nat.reduceAdd, Nat.reduceSub, Array.replicate_succ, Array.replicate_zero, List.push_toArray, List.append_toArray, List.nil_append, List.cons_append]
  gi_wp2
  have bO := Boxed.new w 41 (.slice none 0 0)
  have hB0 : Below w.heap.size w (w.alloc (.cells #[.slice none 0 0] 41)) := (Below.refl _ w).alloc (Nat.le_refl _) _
  refine wp_told h1 (gf := gf) (lb := lb) rfl eg (hT.later hB0) (fun h k => h.trans k) (fun W l o o' hl ho hc _ => PrKp.put (by simp at hl; omega) ho hc) (fun _ => rfl)
    (fun pre W => (∃ v, Boxed W w.heap.size 41 v ∧ W.ownsRow w.heap.size 28 1 v pre.length (pre.map prV) ∧ True) ∧ Below w.heap.size w W)
    (fun _ _ _ => False)
    (OwnFrom.and (Own.from (holdsRow_own w.heap.size w.heap.size 41 28 1 (fun (pre : List Pr) => pre.length) (fun pre => pre.map prV) (fun _ _ => True)) _) (ownFrom_below (Nat.le_refl _) (by simp)))
    (fun _ _ _ _ _ hs _ _ => hs) (hS _)
    ⟨⟨_, bO, World.ownsRow_nil _ _ _ _, trivial⟩, hB0⟩
    (fun x => { tmps := #[.slice none 0 0, .func (.func gf) #[] lb, .pointer (some ⟨w.heap.size, 0, none⟩), undef, .slice none 0 0, prV x, .func (.func gf) #[] lb, prV x, undef, undef, undef, undef, undef], defers := [] }) ?assign ?body ?done ?stop
  case assign =>
    intro l x W K hK
    unfold prV at hK ⊢
    gi_wp2
    exact hK
  case body =>
    rintro l pre x W ⟨⟨v, hv, hrow, _⟩, hB⟩ hlt
    have hc := hv.cell
    have zB := hB.size
    have hML : 1073741825 ≤ maxLen := by decide
    have hpn : pre.length + 1 ≤ 1073741824 := by omega
    unfold prV
    gi_wp2_with (gi_at_builtin; refine wpListIn_append_own _ rfl _ _ 41 rfl w.heap.size 28 i0 (.slice none 0 0) 1 24 Try.underlying41 hi hz0 hz1 hz2 rfl (by decide) _ _ _ rfl (hrow.alloc _) ⟨W.heap.size, 0, none⟩ 1 1 [.slice (some ⟨x.2.2, 0, none⟩) 2 2] rfl rfl (cell_one_new _ _ _) (by simp [Value.oneCell']) (by omega) (by omega) (by simp; omega) ?_; intro v' w1 hown' hgrow _; obtain ⟨g', cap', rfl⟩ := ownsRow_succ hown'; obtain ⟨hv1, hv2, hr2, hk2, hb2⟩ := hv.appended (by decide) hrow hB.size (Nat.le_refl _) hown' hgrow; have hc1 := hv1.cell; have hf1 := hv1.frozen)
    refine ⟨hk2, ⟨hb2.mono zb, fun b cur f e => ?_⟩, ⟨_, hv2, by simp; exact hr2, trivial⟩, hB.trans hb2⟩
    have hbl := (Array.getElem?_eq_some_iff.1 e).1
    have hne : b ≠ w.heap.size := fun q => by
      subst q
      have := hv
      unfold Boxed at this
      rw [this] at e
      cases e
    refine (Below.heap_setCell _ _ _ _ hne).trans ?_
    refine (hgrow.block b (by simp; omega) (owns_not_int hrow e)).trans ?_
    exact Below.heap_alloc _ _ _ hbl
  case done =>
    rintro D xs W hD hs ⟨⟨v, hv, hrow, _⟩, hB⟩ hK
    have hc := hv.cell
    have hso := (hS D).putObj (.deferred none) hs (Nat.le_refl _) hK rfl
    gi_wp2
    refine ⟨by simp, .inl ⟨_, _, rfl, run_takeDeferred hK, ?_⟩⟩
    exact ⟨_, results_tmp rfl _ _ _, v, xs, rfl, hso, ownsRow_putObj hrow _ hK rfl, hB.trans (belowK_b (w := w) (Nat.le_refl _) W D _ _ (by simp at hD; omega) hK rfl rfl)⟩
  case stop =>
    rintro D c pre W _ _ h _
    exact h.elim

set_option maxHeartbeats 1000000 in
theorem Collect_any (gf : Nat) (lb : Array Value) (w w0 : World) (S : List Pr → World → Prop) (Sp : List Pr → Prop) (N : Nat) (hN : N ≤ 1073741824)
    (eg : ∀ (args : Array Value) (w : World), (callFunc gf args).run Try.prog w = .ok (.enter gf args) w) (hb0 : Below w0.heap.size w0 w) (hS : ∀ D, OwnFrom D S)
    (hT : Tells 8 Try.prog gf lb (fun x : Pr => #[prV x]) (PrKp w0.heap.size) S Sp N w) :
    Calls Try.prog 68 #[.func (.func gf) #[] lb] w fun e w' => ∃ v xs, e = .returned v ∧ S xs w' ∧ w'.ownsRow w.heap.size 28 1 v xs.length (xs.map prV) ∧ Below w.heap.size w w' := by
  refine (callsIn_wide (n := 10)).1 ?_
  refine callsIn_of_wp Try.func68 rfl trivial ?_ rfl
  simp only [Try.ntmps68, List.size_toArray, List.length_cons, List.length_nil, Nat.reduceAdd, Nat.reduceSub, Array.replicate_succ, Array.replicate_zero, List.push_toArray, List.append_toArray, List.nil_append, List.cons_append]
  gi_wp2_with (refine ⟨trivial, ?_⟩; gi_at_call 125; refine (AppendSeq_any 9 (by decide) gf lb w w0 S Sp N hN eg hb0 hS hT).mono ?_; rintro e w' ⟨v, xs, rfl, hs, hrow, hb⟩)
  go_ret
  exact ⟨v, xs, rfl, hs, hrow, hb⟩

end Go.Proofs.Ytgmnknlnlmcmfaa

namespace Go.Proofs.Ytgmnknlnlmcmfaa
open Go.RowKit

theorem run_append_row (w : World) (ty : TypeId) (base : Nat) (v : Value) (n : Nat) (xs : List Value) (hown : w.ownsRow base 28 1 v n xs) (b : Nat) (u : Value)
    (hc0 : w.cell? ⟨b, 0, none⟩ = some u) (o0 : u.oneCell' = true) (hn : n ≤ 1073741824) (hbase : base ≤ w.heap.size) :
    ∃ v' w', (Builtin.append_ #[41, 41] ty #[v, .slice (some ⟨b, 0, none⟩) 1 1]).run Try.prog w = .ok v' w' ∧ w'.ownsRow base 28 1 v' (n + 1) (xs ++ [u]) ∧ w.grownBy w' v.ownBlock := by
  obtain ⟨i, hi, hzz⟩ := Option.map_eq_some_iff.1 Try.infoInts
  simp only [Prod.mk.injEq] at hzz
  obtain ⟨hz, hs, hby⟩ := hzz
  obtain ⟨v', w', hr, h2, h3, _⟩ := run_append_own (P := Try.prog) w base 41 ty 28 i _ 1 24 Try.underlying41 hi hz hs hby rfl (by omega) v n xs hown ⟨b, 0, none⟩ 1 1 [u]
    rfl (fun j y hj => by
      match j, hj with
      | 0, hj => simp only [List.getElem?_cons_zero, Option.some.injEq] at hj; subst hj; exact hc0
      | (j + 1), hj => simp at hj) (fun y hy => by
      simp only [List.mem_cons, List.not_mem_nil, or_false] at hy
      subst hy; exact o0) (by unfold maxLen; omega) (by omega) hbase
  exact ⟨v', w', hr, h2, h3⟩
theorem wp_append_row {o : Oper} {a : Act} {w : World} {K : Act → World → Prop} {Q : Exit → Act → World → Prop} (s x : Operand)
    (ho : o.op = .call { callee := .builtin .append, args := #[s, x], argTypes := #[41, 41] })
    (base : Nat) (v : Value) (n : Nat) (xs : List Value) (hs : a.eval s = v) (hown : w.ownsRow base 28 1 v n xs) (b : Nat) (u : Value) (hx : a.eval x = .slice (some ⟨b, 0, none⟩) 1 1)
    (hc0 : w.cell? ⟨b, 0, none⟩ = some u) (o0 : u.oneCell' = true) (hn : n ≤ 1073741824) (hbase : base ≤ w.heap.size)
    (h : ∀ v' w', w'.ownsRow base 28 1 v' (n + 1) (xs ++ [u]) → w.grownBy w' v.ownBlock → K (a.put o.dst v') w') : o.wp Try.prog a w K Q := by
  obtain ⟨v', w', hr, h2, h3⟩ := run_append_row w o.type base v _ _ hown b _ hc0 o0 hn hbase
  unfold Oper.wp execOp
  simp only [ho, resolve, invoke, builtin, Sem.run_bind, Sem.run_pure, Result.andThen_ok, List.map_toArray, List.map_cons, List.map_nil, hs, hx, hr]
  exact h v' w' h2 h3
theorem wpList_append_row {ops : Array Oper} {rest : List Oper} {o : Oper} {a : Act} {w : World} {Q : Exit → Act → World → Prop} (hgd : o.guard = none) (s x : Operand)
    (ho : o.op = .call { callee := .builtin .append, args := #[s, x], argTypes := #[41, 41] })
    (base : Nat) (v : Value) (n : Nat) (xs : List Value) (hs : a.eval s = v) (hown : w.ownsRow base 28 1 v n xs) (b : Nat) (u : Value) (hx : a.eval x = .slice (some ⟨b, 0, none⟩) 1 1)
    (hc0 : w.cell? ⟨b, 0, none⟩ = some u) (o0 : u.oneCell' = true) (hn : n ≤ 1073741824) (hbase : base ≤ w.heap.size)
    (h : ∀ v' w', w'.ownsRow base 28 1 v' (n + 1) (xs ++ [u]) → w.grownBy w' v.ownBlock → wpList Try.prog ops Q rest (a.put o.dst v') w') : wpList Try.prog ops Q (o :: rest) a w :=
  wpList_plain hgd fun _ hK => wp_append_row s x ho base v n xs hs hown b u hx hc0 o0 hn hbase fun v' w' h2 h3 => hK _ _ (h v' w' h2 h3)

/-- rows that grow: the outer slice and the rows, in one word -/
def RowsG (B : Nat) (w : World) (v : Value) (L : List (List Int)) : Prop :=
  ∃ zs : List (Value × List Int), w.ownsRow B 28 1 v zs.length (zs.map Prod.fst) ∧ RowsC B w zs ∧ zs.map Prod.snd = L
theorem RowsG.nil (B : Nat) (w : World) : RowsG B w (.slice none 0 0) [] := ⟨[], World.ownsRow_nil _ _ _ _, RowsC.nil _ _, rfl⟩
theorem RowsG.after {B : Nat} {w w' : World} {v : Value} {L : List (List Int)} (h : RowsG B w v L) (hb : Below w.heap.size w w') : RowsG B w' v L := by
  obtain ⟨zs, h1, h2, h3⟩ := h
  exact ⟨zs, owns_after h1 hb, h2.after hb, h3⟩
theorem RowsG.own {B : Nat} {w : World} {v : Value} {L : List (List Int)} (h : RowsG B w v L) : RowsOw B w v L := by
  obtain ⟨zs, h1, h2, h3⟩ := h
  refine ⟨zs, ?_, h2, h3⟩
  rw [← h3, List.length_map]; exact h1
theorem RowsG.form {B : Nat} {w : World} {v : Value} {L : List (List Int)} (h : RowsG B w v L) : ∃ a c, v = .slice a L.length c := by
  obtain ⟨a, c, hv, _⟩ := h.own.cap; exact ⟨a, c, hv⟩
theorem two_ints {w : World} {b : Nat} {i k : Int} {t : TypeId} (hh : w.heap[b]? = some (.cells #[.int .i64 i, .int .i64 k] t)) : ∀ j : Nat, j < [i, k].length → w.cell? ⟨b, 0 + j, none⟩ = some (.int .i64 ([i, k].getD j 0)) ∧ w.frozen? ⟨b, 0 + j, none⟩ = false := fun j hj => by
  match j, hj with
  | 0, _ => simp [World.cell?, World.frozen?, hh]
  | 1, _ => simp [World.cell?, World.frozen?, hh]
/-- a literal of two ints, appended -/
theorem RowsG.pair {B : Nat} {w w2 : World} {v v' : Value} {L : List (List Int)} {zs : List (Value × List Int)} {i k : Int} {o : Obj} (h1 : w.ownsRow B 28 1 v zs.length (zs.map Prod.fst)) (h2 : RowsC B w zs) (h3 : zs.map Prod.snd = L) (hB : B ≤ w.heap.size)
    (hown : w2.ownsRow B 28 1 v' (zs.length + 1) (zs.map Prod.fst ++ [.slice (some ⟨w.heap.size, 0, none⟩) 2 2]))
    (hg : ((w.alloc (.cells #[.int .i64 i, .int .i64 k] 3)).alloc o).grownBy w2 v.ownBlock) : RowsG B w2 v' (L ++ [[i, k]]) := by
  have ha : Below w.heap.size w (w.alloc (.cells #[.int .i64 i, .int .i64 k] 3)) := (Below.refl _ _).alloc (Nat.le_refl _) _
  have hb : Below (w.alloc (.cells #[.int .i64 i, .int .i64 k] 3)).heap.size (w.alloc (.cells #[.int .i64 i, .int .i64 k] 3)) ((w.alloc (.cells #[.int .i64 i, .int .i64 k] 3)).alloc o) := (Below.refl _ _).alloc (Nat.le_refl _) _
  have hh := heap_alloc_new w (.cells #[.int .i64 i, .int .i64 k] 3)
  have hp := (h2.push (u := .slice (some ⟨w.heap.size, 0, none⟩) 2 2) (z := [i, k]) ha ⟨_, 2, rfl, Nat.le_refl _, Or.inr ⟨w.heap.size, 0, rfl, Nat.le_refl _, two_ints hh⟩⟩ (fun b off n c e _ => by
      injection e with e1 e2 e3
      injection e1 with e1
      injection e1 with e1 e4 e5
      subst e1
      exact ⟨3, by decide, TyAt.new _ _ _⟩) hB).after hb
  have hr : ((w.alloc (.cells #[.int .i64 i, .int .i64 k] 3)).alloc o).ownsRow B 28 1 v zs.length (zs.map Prod.fst) := owns_after (owns_after h1 ha) hb
  have hq := hp.grown hr hg
  refine ⟨zs ++ [(.slice (some ⟨w.heap.size, 0, none⟩) 2 2, [i, k])], ?_, hq, ?_⟩
  · rw [List.length_append, List.map_append]; exact hown
  · rw [List.map_append, h3]; rfl

end Go.Proofs.Ytgmnknlnlmcmfaa
