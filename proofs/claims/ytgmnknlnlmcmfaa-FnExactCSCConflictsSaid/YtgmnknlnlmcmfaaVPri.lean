/- WALKS: the iterator that pairs makes; slices.AppendSeq and slices.Collect over it. -/
import Derived.RangeFuncNested
import Derived.RangeFuncLeaves
import Derived.Shelf.Abstract
import Derived.Shelf.RegionOpen
import Derived.WalkKit
import Derived.OwnWalkIn
import Derived.TacticsInMore
import Derived.LoopNIn
import Derived.LoopIn
import Derived.Maps.AppendAt
import Derived.Test.YtgmnknlnlmcmfaaVPrs
import Derived.Test.YtgmnknlnlmcmfaaVRwd
namespace Go.Proofs.Ytgmnknlnlmcmfaa
open Go.RowKit Go.Shelf
attribute [local go_sem] Oper.semAt_some

theorem grown_of_below {w w' : World} (h : Below w.heap.size w w') : w.grownBy w' none := ⟨h.os, h.tape, h.output, h.size, fun k hk _ => h.block k hk⟩

/-- a pair that was given: i, k, the block that holds them -/
abbrev Pr := Nat × Nat × Nat
def prV (x : Pr) : Value := .slice (some ⟨x.2.2, 0, none⟩) 2 2
def prK (x : Pr) : Nat × Nat := (x.1, x.2.1)
def prO (i k : Nat) : Obj := .cells #[.int .i64 (i : Int), .int .i64 (k : Int)] 3
/-- each pair in a block of its own -/
def PrAt (B : Nat) (W : World) (xs : List Pr) : Prop := (∀ x, x ∈ xs → B ≤ x.2.2 ∧ W.heap[x.2.2]? = some (prO x.1 x.2.1)) ∧ xs.Pairwise (fun x y => x.2.2 ≠ y.2.2)
theorem PrAt.nil (B : Nat) (W : World) : PrAt B W [] := ⟨fun x h => (by cases h), List.Pairwise.nil⟩
theorem PrAt.same {B : Nat} {W W' : World} {xs : List Pr} (h : PrAt B W xs) (he : ∀ (b i k : Nat), W.heap[b]? = some (prO i k) → W'.heap[b]? = W.heap[b]?) : PrAt B W' xs :=
  ⟨fun x hx => ⟨(h.1 x hx).1, (he _ _ _ (h.1 x hx).2).trans (h.1 x hx).2⟩, h.2⟩
theorem PrAt.after {B : Nat} {W W' : World} {xs : List Pr} (h : PrAt B W xs) (hb : Below W.heap.size W W') : PrAt B W' xs := h.same fun b _ _ e => hb.block b (Array.getElem?_eq_some_iff.1 e).1
theorem PrAt.push {B : Nat} {W : World} {xs : List Pr} (h : PrAt B W xs) (hB : B ≤ W.heap.size) (i k : Nat) : PrAt B (W.alloc (prO i k)) (xs ++ [(i, k, W.heap.size)]) := by
  have h1 := h.after ((Below.refl _ _).alloc (Nat.le_refl _) (prO i k))
  refine ⟨fun x hx => ?_, ?_⟩
  · rcases List.mem_append.1 hx with hx | hx
    · exact h1.1 x hx
    · rw [List.mem_singleton] at hx; subst hx
      exact ⟨hB, World.alloc_heap_new W _⟩
  · rw [List.pairwise_append]
    refine ⟨h.2, List.pairwise_singleton _ _, fun x hx y hy => ?_⟩
    rw [List.mem_singleton] at hy; subst hy
    have := (Array.getElem?_eq_some_iff.1 (h.1 x hx).2).1
    dsimp only
    omega
theorem PrAt.own (B D : Nat) : OwnFrom D (fun xs W => PrAt B W xs) := fun xs W W' row h hg hr => h.same fun b i k e => hg.block b (Array.getElem?_eq_some_iff.1 e).1 fun q => by
  obtain ⟨_, o, ho, hc⟩ := hr b q.symm
  rw [e] at ho; cases ho; cases hc
/-- what the rounds keep: what lay before, and every block of ints -/
def PrKp (n₀ : Nat) (W W' : World) : Prop := Below n₀ W W' ∧ ∀ (b : Nat) (cur : Array Value) (f : Nat × Nat), W.heap[b]? = some (Obj.cells cur 3 f) → W'.heap[b]? = W.heap[b]?
theorem PrKp.refl (n₀ : Nat) (W : World) : PrKp n₀ W W := ⟨Below.refl _ _, fun _ _ _ _ => rfl⟩
theorem PrKp.trans {n₀ : Nat} {A B C : World} (h : PrKp n₀ A B) (k : PrKp n₀ B C) : PrKp n₀ A C :=
  ⟨h.1.trans k.1, fun b cur f e => (k.2 b cur f ((h.2 b cur f e).trans e)).trans (h.2 b cur f e)⟩
theorem PrKp.put {n₀ : Nat} {W : World} {l : Nat} {o o' : Obj} (hl : n₀ ≤ l) (h : W.heap[l]? = some o) (hc : o.isCells = false) : PrKp n₀ W (W.putObj l o') :=
  ⟨(Below.refl n₀ W).grown (grownBy_putObj' W l o') (by have := (Array.getElem?_eq_some_iff.1 h).1; omega) (fun k e => by cases e; omega), fun b cur f e => World.putObj_heap_other fun q => by
    subst q; rw [h] at e; cases e; cases hc⟩

section pairs
variable (Fc : Nat) (pre caps : Array Value) (f : Nat → Nat → Bool) (m : Nat)

/-- all pairs in order, each in a block of its own -/
def PrS (B : Nat) (xs : List Pr) (W : World) : Prop := xs.map prK = prL f m ∧ PrAt B W xs
theorem PrS.own (B D : Nat) : OwnFrom D (PrS f m B) := fun xs W W' row h hg hr => ⟨h.1, PrAt.own B D xs W W' row h.2 hg hr⟩

set_option maxRecDepth 100000 in
set_option maxHeartbeats 4000000 in
theorem pairs1_tells (n : Nat) (hn : 1 ≤ n) (Bc Bf : Nat) (w : World) (hm : m ≤ 1048576)
    (hF : ∀ (args : Array Value) (w : World), (callFunc Fc args).run Try.prog w = .ok (.enter Fc args) w)
    (xc : w.cell? ⟨Bc, 0, none⟩ = some (.int .i64 (m : Int))) (xf : w.cell? ⟨Bf, 0, none⟩ = some (.func (.func Fc) pre caps))
    (hclo : ∀ i k, i < k → k < m → ∀ W, Below w.heap.size w W → Calls Try.prog Fc (pre ++ (#[.int .i64 (i : Int), .int .i64 (k : Int)] ++ caps)) W (RetB W (f i k))) :
    Tells n Try.prog 126 #[.pointer (some ⟨Bc, 0, none⟩), .pointer (some ⟨Bf, 0, none⟩)] (fun x : Pr => #[prV x]) (PrKp w.heap.size) (PrS f m w.heap.size) (fun p => p ≠ [] ∧ prL f m ≠ []) (m * m) w := by
  intro l J Jx W hW hJ hJx hY h0
  have zc := cell_old xc
  have zf := cell_old xf
  simp only at zc zf
  have zW := hW.size
  have HC := Lib.hid hclo; clear hclo
  refine callsIn_of_wp Try.func126 rfl trivial ?_ rfl
  simp only [Try.ntmps126, List.size_toArray, List.length_cons, List.length_nil, Nat.reduceAdd, Nat.reduceSub, Array.replicate_succ, Array.replicate_zero, List.push_toArray, List.append_toArray, List.nil_append, List.cons_append]
  have xc1 := cell_carry xc (Carries.of 0 hW)
  have X0 := Lib.hid h0; clear h0
  have XF := Lib.hid xf; clear xf
  have hst : Below w.heap.size w W := hW
  gi_wp2
  gi_loopw [4, 5, 7] (fun _ _ c wr => ∃ (i : Nat) (xs : List Pr), i ≤ m ∧ c = .int .i64 i ∧ Hid (xs.map prK = prTo f m i ∧ PrAt w.heap.size wr xs ∧ J xs wr) ∧ Below w.heap.size w wr) (fun _ _ c _ => m - (intOf c).toNat)
  case atStart => exact ⟨0, [], Nat.zero_le _, rfl, ⟨rfl, PrAt.nil _ _, X0.out⟩, hst⟩
  case round =>
    obtain ⟨i, xs, hi, rfl, HX, hb1⟩ := hrel
    have xc1 := cell_carry xc (Carries.of 0 hb1)
    by_cases hlt : i < m
    · obtain ⟨wo, rfl⟩ : ∃ wo, wo = wr := ⟨_, rfl⟩
      gi_wp2
      gi_loopw [5] (fun kv wr => ∃ (k : Nat) (xs : List Pr), i + 1 ≤ k ∧ k ≤ m ∧ kv = .int .i64 k ∧ Hid (xs.map prK = prTo f m i ++ prRow f i k ∧ PrAt w.heap.size wr xs ∧ J xs wr) ∧ Below w.heap.size w wr) (fun kv _ => m - (intOf kv).toNat)
      case atStart =>
        refine ⟨i + 1, xs, Nat.le_refl _, hlt, by go_num, ⟨?_, HX.out.2⟩, hb1⟩
        rw [prRow_start (Nat.le_refl _), List.append_nil]; exact HX.out.1
      case round =>
        obtain ⟨k, ys, hk1, hk2, rfl, HY, hb2⟩ := hrel
        have xc2 := cell_carry xc (Carries.of 0 hb2)
        have xf2 := cell_carry XF.out (Carries.of 0 hb2)
        have zr := hb2.size
        by_cases hkt : k < m
        · have hcall := (callsIn_wide (n := n - 1)).2 (HC.out i k (by omega) hkt _ hb2)
          have hlen := Lib.hid (show ys.length < m * m by
            have h1 := congrArg List.length HY.out.1
            have h2 := prTo_length f m i
            have h3 := prRow_length f i k
            have h4 : (i + 1) * m ≤ m * m := Nat.mul_le_mul_right _ hlt
            rw [Nat.succ_mul] at h4
            rw [List.length_map, List.length_append] at h1
            omega)
          gi_wp2
          refine ⟨trivial, hcall.mono ?_⟩
          clear hcall
          rintro e w2 ⟨rfl, hb⟩
          have hb3 : Below w.heap.size w w2 := hb2.trans (hb.mono zr)
          have zr2 := hb.size
          have HY2 : Hid (ys.map prK = prTo f m i ++ prRow f i k ∧ PrAt w.heap.size w2 ys ∧ J ys w2) := ⟨HY.out.1, HY.out.2.1.after hb, hJ ys wr w2 none HY.out.2.2 (grown_of_below hb) (fun r e => by cases e)⟩
          clear hb HY xc2 xf2
          cases hf : f i k with
          | false =>
            have HY3 : Hid (ys.map prK = prTo f m i ++ prRow f i (k + 1) ∧ PrAt w.heap.size w2 ys ∧ J ys w2) := ⟨by rw [prRow_no hf]; exact HY2.out.1, HY2.out.2⟩
            clear HY2 hf
            gi_wp2
            refine ⟨fun _ h => (by cases h), ?_⟩
            gi_wp2
            go_roundw
            case rel => exact ⟨k + 1, ys, by omega, by omega, by go_num, HY3, hb3⟩
            case measure => simp [intOf]; omega
          | true =>
            have hal : Below w2.heap.size w2 (w2.alloc (prO i k)) := (Below.refl _ _).alloc (Nat.le_refl _) _
            have hJ3 := hJ ys w2 _ none HY2.out.2.2 (grown_of_below hal) (fun r e => by cases e)
            obtain ⟨fn, tmps, assign, body, hy, hR⟩ := hY ys (i, k, w2.heap.size) (w2.alloc (prO i k)) hJ3 hlen.out
            have HP := Lib.hid (HY2.out.2.1.push (by omega) i k)
            have HR := Lib.hid hR
            have HE := Lib.hid (show (ys ++ [(i, k, w2.heap.size)]).map prK = prTo f m i ++ prRow f i (k + 1) by rw [List.map_append, HY2.out.1, prRow_yes (by omega) hf, List.append_assoc]; rfl)
            clear hR hal hJ3 HY2 hf
            unfold prV prO at hy
            dsimp only at hy
            gi_wp2
            refine HR.out.mono ?_
            clear HR hy
            rintro e W3 (⟨rfl, hJ4, hk⟩ | ⟨rfl, hJx4⟩)
            · have hb4 : Below w.heap.size w W3 := (hb3.alloc (by omega) (prO i k)).trans hk.1
              have HY5 : Hid ((ys ++ [(i, k, w2.heap.size)]).map prK = prTo f m i ++ prRow f i (k + 1) ∧ PrAt w.heap.size W3 (ys ++ [(i, k, w2.heap.size)]) ∧ J (ys ++ [(i, k, w2.heap.size)]) W3) :=
                ⟨HE.out, HP.out.same (fun b i k e => hk.2 b _ _ e), hJ4⟩
              clear hJ4 hk HP HE
              gi_wp2
              go_roundw
              case rel => exact ⟨k + 1, _, by omega, by omega, by go_num, HY5, hb4⟩
              case measure => simp [intOf]; omega
            · have HN := Lib.hid (show prL f m ≠ [] by
                intro h0
                have h1 := congrArg List.length HE.out
                have h2 : (prTo f m i ++ prRow f i (k + 1)).length ≤ (prL f m).length := prL_part hlt (by omega)
                rw [h0] at h2
                simp at h1 h2
                rw [h2.1, h2.2] at h1
                simp at h1)
              have HX4 := Lib.hid hJx4; clear hJx4
              gi_wp2
              refine bodyPost_ret (results_none rfl _ _ _) rfl ?_
              exact ⟨⟨_, rfl⟩, .inr ⟨_, ⟨by simp, HN.out⟩, HX4.out⟩⟩
        · obtain rfl : k = m := by omega
          have HY5 : Hid (ys.map prK = prTo f k (i + 1) ∧ PrAt w.heap.size wr ys ∧ J ys wr) := ⟨by rw [prTo_succ]; exact HY.out.1, HY.out.2⟩
          gi_wp2
          go_roundw
          case rel => exact ⟨i + 1, ys, by omega, by go_num, HY5, hb2⟩
          case measure => simp [intOf]; omega
    · obtain rfl : i = m := by omega
      gi_wp2
      go_end0
      exact ⟨⟨_, rfl⟩, .inl ⟨xs, ⟨HX.out.1, HX.out.2.1⟩, HX.out.2.2⟩⟩
end pairs

end Go.Proofs.Ytgmnknlnlmcmfaa
