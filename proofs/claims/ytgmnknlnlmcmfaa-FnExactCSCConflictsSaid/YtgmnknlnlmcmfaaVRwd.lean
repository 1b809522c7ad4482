/- WALK: markText answers some string. What may be stirred: blocks from lo on, before hi.
   OWNED RESULTS of the laws, in one form for each kind of row: ints.
   ROWS OF INTS IN A ROW: what they read as, rows that the call owns, one more. -/
import Derived.Test.YtgmnknlnlmcmfaaVSep
import Derived.Test.YtgmnknlnlmcmfaaVStga
import Derived.Laws.BytesString
import Derived.Test.YtgmnknlnlmcmfaaVRetov
import Derived.Test.YtgmnknlnlmcmfaaVUne
import Derived.Test.YtgmnknlnlmcmfaaVNxt
namespace Go.Proofs.Ytgmnknlnlmcmfaa
open Go.RowKit

theorem conv_one (w : World) (e : TypeId) (z : Int) : (convert 200 9 (.slice (some ⟨w.heap.size, 0, none⟩) 1 1)).run Try.prog (w.alloc (.cells #[.int .u8 z] e)) = .ok (.string (ByteArray.empty.push (UInt8.ofNat z.toNat))) (w.alloc (.cells #[.int .u8 z] e)) := by
  rw [run_convert_bytes_string _ 200 9 5 _ _ _ Try.underlying200 Try.underlying5 Try.underlying9]
  have hl := run_loadCells_list (P := Try.prog) (w.alloc (.cells #[.int .u8 z] e)) ⟨w.heap.size, 0, none⟩ [.int .u8 z] (fun j v hv => by
    match j, hv with
    | 0, hv => simp only [List.getElem?_cons_zero, Option.some.injEq] at hv; subst hv; simp [Addr.add]
    | (j + 1), hv => simp at hv)
  exact run_bytesToString _ ⟨w.heap.size, 0, none⟩ 1 1 [z] hl

set_option maxHeartbeats 1000000 in
theorem markText_any (k : Int) (w : World) (h0 : 0 ≤ k) (h1 : k ≤ 1099511627776000) :
    Calls Try.prog 124 #[.int .i64 k] w (fun e w' => ∃ s, e = .returned (.string s) ∧ Below w.heap.size w w') := by
  have kc := conv_one
  go_enter Try.func124, Try.ntmps124
  by_cases hk : k ≤ 0
  · go_wp2_with fail
    go_ret
    exact ⟨_, rfl, Below.refl _ _⟩
  go_wp2_with fail
  go_loopw [0, 3] (fun nv sv wr => ∃ (x : Int) (s : ByteArray), 0 ≤ x ∧ (s.size : Int) + x ≤ k ∧ nv = .int .i64 x ∧ sv = .string s ∧ Below w.heap.size w wr) (fun nv _ _ => (intOf nv).toNat)
  case atStart => exact ⟨k, ByteArray.empty, h0, by show ((0 : Nat) : Int) + k ≤ k; omega, rfl, rfl, Below.refl _ _⟩
  case round =>
    obtain ⟨x, s, hx0, hx1, rfl, rfl, hb1⟩ := hrel
    have zz1 := hb1.size
    by_cases hlt : 0 < x
    · have e1 : x.tdiv 10 = x / 10 := Int.tdiv_eq_ediv_of_nonneg hx0
      have e2 : x.tmod 10 = x % 10 := Int.tmod_eq_emod_of_nonneg hx0
      have q0 : 0 ≤ x / 10 := by omega
      have q1 : x / 10 ≤ x := by omega
      have q2 : x / 10 < x := by omega
      have r0 : 0 ≤ x % 10 := by omega
      have r1 : x % 10 ≤ 9 := by omega
      have hsz : (ByteArray.empty.push (UInt8.ofNat (48 + x % 10).toNat) ++ s).size = 1 + s.size := by rw [ByteArray.size_append]; rfl
      have hsz2 : (ByteArray.empty.push (UInt8.ofNat (48 + x % 10).toNat)).size = 1 := rfl
      go_wp2_with fail
      go_roundw
      case rel => exact ⟨x / 10, _, q0, by rw [hsz]; omega, by go_num, rfl, by (repeat' (first | (with_reducible exact Below.refl _ _) | (with_reducible assumption) | (with_reducible refine Below.alloc ?_ ?_ _) | (with_reducible refine Below.drew ?_) | (with_reducible refine below_drewN ?_ _) | (with_reducible refine Below.setCell ?_ ?_ _) | go_size))⟩
      case measure => simp [intOf]; omega
    · have hsz3 : (s.size : Int) ≤ k := by omega
      go_wp2_with fail
      go_ret
      first
        | exact ⟨_, rfl, hb1⟩
        | exact ⟨⟨_, rfl⟩, hb1⟩

/-- the blocks from lo on, before hi, may have changed; of the others that were there none -/
structure Stir (lo hi : Nat) (w w' : World) : Prop where
  os : w'.os = w.os
  tape : w'.tape = w.tape
  output : w'.output = w.output
  size : w.heap.size ≤ w'.heap.size
  block : ∀ b, b < w.heap.size → (b < lo ∨ hi ≤ b) → w'.heap[b]? = w.heap[b]?
theorem Stir.of {w w' : World} (lo hi : Nat) (h : Below w.heap.size w w') : Stir lo hi w w' := ⟨h.os, h.tape, h.output, h.size, fun b hb _ => h.block b hb⟩
theorem Stir.refl (lo hi : Nat) (w : World) : Stir lo hi w w := Stir.of lo hi (Below.refl _ _)
theorem Stir.trans {lo hi : Nat} {a b c : World} (h : Stir lo hi a b) (k : Stir lo hi b c) : Stir lo hi a c :=
  ⟨k.os.trans h.os, k.tape.trans h.tape, k.output.trans h.output, Nat.le_trans h.size k.size, fun x hx hc => (k.block x (Nat.lt_of_lt_of_le hx h.size) hc).trans (h.block x hx hc)⟩
theorem Stir.wide {lo hi lo' hi' : Nat} {w w' : World} (h : Stir lo hi w w') (h1 : lo' ≤ lo) (h2 : hi ≤ hi') : Stir lo' hi' w w' :=
  ⟨h.os, h.tape, h.output, h.size, fun b hb hc => h.block b hb (by omega)⟩
theorem Stir.set {lo hi : Nat} {a w : World} (h : Stir lo hi a w) {p : Addr} (h1 : lo ≤ p.block) (h2 : p.block < hi) (u : Value) : Stir lo hi a (w.setCell p u) :=
  h.trans ⟨rfl, rfl, rfl, by simp, fun b _ hc => Below.heap_setCell _ _ _ _ (by omega)⟩
theorem Marks.stir {lo hi : Nat} {w w' : World} (h : Marks lo hi w w') : Stir lo hi w w' := ⟨h.os, h.tape, h.output, by rw [h.size]; exact Nat.le_refl _, fun b _ hc => h.block b hc⟩
theorem Stir.cell {lo hi : Nat} {w w' : World} {a : Addr} {v : Value} (h : Stir lo hi w w') (ha : a.block < lo ∨ hi ≤ a.block) (hc : w.cell? a = some v) : w'.cell? a = some v :=
  (World.cell?_of_block (h.block a.block (cell_old hc) ha)).trans hc
theorem Stir.frozen {lo hi : Nat} {w w' : World} {a : Addr} (h : Stir lo hi w w') (ha : a.block < lo ∨ hi ≤ a.block) (hb : a.block < w.heap.size) : w'.frozen? a = w.frozen? a :=
  World.frozen?_of_block (h.block a.block hb ha)
theorem Stir.below {lo hi B : Nat} {a w w' : World} (h : Stir lo hi w w') (hb : Below B a w) (hB : B ≤ lo) (hB2 : B ≤ w.heap.size) : Below B a w' :=
  hb.trans ⟨h.os, h.tape, h.output, h.size, fun k hk => h.block k (Nat.lt_of_lt_of_le hk hB2) (Or.inl (by omega))⟩

/-- n pairs of cells that may be written, in a block from lo on, before hi -/
def PairBox (lo hi : Nat) (w : World) (v : Value) (n : Nat) : Prop :=
  ∃ (ao : Option Addr) (cap : Nat), v = .slice ao n cap ∧
    (n = 0 ∨ ∃ b off, ao = some ⟨b, off, none⟩ ∧ lo ≤ b ∧ b < hi ∧ ∀ i, i < n * 2 → (∃ u, w.cell? ⟨b, off + i, none⟩ = some u) ∧ w.frozen? ⟨b, off + i, none⟩ = false)
theorem PairBox.form {lo hi : Nat} {w : World} {v : Value} {n : Nat} (h : PairBox lo hi w v n) : ∃ a c, v = .slice a n c := by
  obtain ⟨a, c, rfl, _⟩ := h
  exact ⟨a, c, rfl⟩
theorem PairBox.stir {lo hi l k : Nat} {w w' : World} {v : Value} {n : Nat} (h : PairBox lo hi w v n) (hs : Stir l k w w') (hc : hi ≤ l ∨ k ≤ lo) : PairBox lo hi w' v n := by
  obtain ⟨ao, cap, hv, hz⟩ := h
  refine ⟨ao, cap, hv, ?_⟩
  rcases hz with hz | ⟨b, off, ha, h1, h2, hcell⟩
  · exact Or.inl hz
  · refine Or.inr ⟨b, off, ha, h1, h2, fun i hi => ?_⟩
    obtain ⟨⟨u, hu⟩, hf⟩ := hcell i hi
    have hb := cell_old hu
    exact ⟨⟨u, hs.cell (by simp; omega) hu⟩, (hs.frozen (by simp; omega) hb).trans hf⟩

end Go.Proofs.Ytgmnknlnlmcmfaa

namespace Go.Proofs.Ytgmnknlnlmcmfaa
open Go.RowKit

theorem selfInts' (L : List Int) : decide (L = L) = true := decide_eq_true rfl
theorem IntsOw.cap {lo : Nat} {w : World} {v : Value} {zs : List Int} (h : IntsOw lo w v zs) : ∃ a c, v = .slice a zs.length c ∧ zs.length ≤ c := by
  obtain ⟨a, c, rfl, hc, _⟩ := h
  exact ⟨a, c, rfl, hc⟩
theorem IntsOw.after {lo : Nat} {w w' : World} {v : Value} {zs : List Int} (h : IntsOw lo w v zs) (hb : Below w.heap.size w w') : IntsOw lo w' v zs := h.keep (Same.of _ hb)
theorem IntsOw.stir {B l k : Nat} {w w' : World} {v : Value} {zs : List Int} (h : IntsOw B w v zs) (hs : Stir l k w w') (hk : k ≤ B) : IntsOw B w' v zs :=
  h.keep ⟨hs.size, fun b h1 h2 => hs.block b h2 (Or.inr (by omega))⟩
theorem IntsAt.stir {lo hi l k : Nat} {w w' : World} {v : Value} {zs : List Int} (h : IntsAt lo w v zs) (hB : Bound hi v) (hm : Stir l k w w') (hl : hi ≤ l) : IntsAt lo w' v zs := by
  obtain ⟨ao, cap, rfl, hc, hz⟩ := h
  refine ⟨ao, cap, rfl, hc, ?_⟩
  rcases hz with hz | ⟨b, off, rfl, hlo, hcell⟩
  · exact Or.inl hz
  · exact Or.inr ⟨b, off, rfl, hlo, fun i hi => hm.cell (Or.inl (by have := hB b off _ _ rfl (by omega); simp; omega)) (hcell i hi)⟩
theorem markInts_row (v : Value) (zs : List Int) (k : Int) (w : World) (B : Nat) (h : IntsOw B w v zs) (hn : zs.length ≤ 1048576) (h0 : 0 ≤ k) (h1 : k ≤ 109951162777600) :
    Calls Try.prog 19 #[v, .int .i64 k] w (fun e w' => e = .returned (.int .i64 (k + (zs.length : Int))) ∧ Stir B w.heap.size w w' ∧ IntsAt B w' v (upFrom k zs.length)) := by
  refine (markIntS_any v zs.length k w B w.heap.size h.box hn h0 (by omega)).mono fun e w' ⟨he, hm, hx⟩ => ⟨he, hm.stir, ?_⟩
  obtain ⟨ao, cap, rfl, hc, hz⟩ := h
  refine ⟨ao, cap, by rw [upFrom_length], by rw [upFrom_length]; exact hc, ?_⟩
  rw [upFrom_length]
  rcases hz with rfl | ⟨b, off, rfl, hlo, hcell⟩
  · left; rfl
  · refine Or.inr ⟨b, off, rfl, hlo, fun i hi => ?_⟩
    rw [upFrom_get hi]
    exact hx b off cap rfl i hi

end Go.Proofs.Ytgmnknlnlmcmfaa

namespace Go.Proofs.Ytgmnknlnlmcmfaa
open Go.RowKit

def rwN (L : List (List Int)) (i : Nat) : List Int := L.getD i []
theorem rwN_get {L : List (List Int)} {i : Nat} (h : i < L.length) : rwN L i = L[i] := by simp [rwN, List.getD, h]
def SmallRows (L : List (List Int)) : Prop := L.length ≤ 16777216 ∧ ∀ i, (rwN L i).length ≤ 1048576
theorem bound_nil (hi : Nat) : Bound hi (.slice none 0 0) := fun b off len cap h => by injection h with h1; cases h1

/-- what a slice of slices reads as; its blocks lie from lo on, before hi -/
def RowsIn (lo hi : Nat) (w : World) (v : Value) (L : List (List Int)) : Prop :=
  ∃ (ao : Option Addr) (cap : Nat), v = .slice ao L.length cap ∧ L.length ≤ cap ∧
    (L.length = 0 ∨ ∃ b off, ao = some ⟨b, off, none⟩ ∧ lo ≤ b ∧ b < hi ∧ ∀ i, i < L.length → ∃ a c, w.cell? ⟨b, off + i, none⟩ = some (.slice a (rwN L i).length c) ∧ IntsIn lo hi w (.slice a (rwN L i).length c) (rwN L i))
theorem RowsIn.keep {lo hi : Nat} {w w' : World} {v : Value} {L : List (List Int)} (h : RowsIn lo hi w v L) (hc : Carries lo w w') : RowsIn lo hi w' v L := by
  obtain ⟨ao, cap, hv, hcap, hz⟩ := h
  refine ⟨ao, cap, hv, hcap, ?_⟩
  rcases hz with hz | ⟨b, off, ha, hlo, hhi, hcell⟩
  · exact Or.inl hz
  · refine Or.inr ⟨b, off, ha, hlo, hhi, fun i hi => ?_⟩
    obtain ⟨a, c, hx, hy⟩ := hcell i hi
    exact ⟨a, c, hc _ _ hlo hx, hy.keep hc⟩
theorem IntsIn.stir {lo hi l k : Nat} {w w' : World} {v : Value} {zs : List Int} (h : IntsIn lo hi w v zs) (hm : Stir l k w w') (hl : hi ≤ l) : IntsIn lo hi w' v zs := ⟨h.1.stir h.2 hm hl, h.2⟩
theorem RowsIn.stir {lo hi l k : Nat} {w w' : World} {v : Value} {L : List (List Int)} (h : RowsIn lo hi w v L) (_ : True) (hm : Stir l k w w') (hl : hi ≤ l) : RowsIn lo hi w' v L := by
  obtain ⟨ao, cap, hv, hcap, hz⟩ := h
  refine ⟨ao, cap, hv, hcap, ?_⟩
  rcases hz with hz | ⟨b, off, ha, hlo, hhi, hcell⟩
  · exact Or.inl hz
  · refine Or.inr ⟨b, off, ha, hlo, hhi, fun i hi => ?_⟩
    obtain ⟨a, c, hx, hy⟩ := hcell i hi
    exact ⟨a, c, hm.cell (Or.inl (by simp; omega)) hx, hy.stir hm hl⟩
theorem RowsIn.form {lo hi : Nat} {w : World} {v : Value} {L : List (List Int)} (h : RowsIn lo hi w v L) : ∃ a c, v = .slice a L.length c := by
  obtain ⟨a, c, hv, _⟩ := h; exact ⟨a, c, hv⟩

/-- the block of a slice, if it has elements, is not of a row of slices -/
def Typed (w : World) (v : Value) : Prop := ∀ b off n c, v = .slice (some ⟨b, off, none⟩) n c → 0 < n → ∃ t, 28 ≠ t ∧ TyAt w b t
theorem Typed.keep {w w' : World} {v : Value} (h : Typed w v) (hb : Below w.heap.size w w') : Typed w' v := fun b off n c e hn => by
  obtain ⟨t, h1, h2⟩ := h b off n c e hn; exact ⟨t, h1, h2.keep hb⟩
/-- two slices with elements lie in two blocks -/
def Apart (u v : Value) : Prop := ∀ b off n c off' n' c', u = .slice (some ⟨b, off, none⟩) n c → 0 < n → v = .slice (some ⟨b, off', none⟩) n' c' → n' = 0
/-- the rows of a row, each the call's own, each in a block of its own -/
def RowsC (B : Nat) (w : World) (zs : List (Value × List Int)) : Prop :=
  (∀ p, p ∈ zs → IntsOw B w p.1 p.2 ∧ Bound w.heap.size p.1 ∧ Typed w p.1) ∧ zs.Pairwise (fun p q => Apart p.1 q.1)
theorem RowsC.nil (B : Nat) (w : World) : RowsC B w [] := ⟨fun p h => (by cases h), List.Pairwise.nil⟩
theorem Bound.wide {hi hi' : Nat} {v : Value} (h : Bound hi v) (hl : hi ≤ hi') : Bound hi' v := fun b off len cap e hn => Nat.lt_of_lt_of_le (h b off len cap e hn) hl
theorem RowsC.after {B : Nat} {w w' : World} {zs : List (Value × List Int)} (h : RowsC B w zs) (hb : Below w.heap.size w w') : RowsC B w' zs :=
  ⟨fun p hp => ⟨(h.1 p hp).1.after hb, (h.1 p hp).2.1.wide hb.size, (h.1 p hp).2.2.keep hb⟩, h.2⟩
theorem RowsC.sub {B : Nat} {w : World} {zs ys : List (Value × List Int)} (h : RowsC B w zs) (hs : List.Sublist ys zs) : RowsC B w ys :=
  ⟨fun p hp => h.1 p (hs.subset hp), h.2.sublist hs⟩
theorem IntsOw.bound {lo : Nat} {w : World} {v : Value} {zs : List Int} (h : IntsOw lo w v zs) : Bound w.heap.size v := h.at.bound
/-- one more, new since w -/
theorem RowsC.push {B : Nat} {w w1 : World} {zs : List (Value × List Int)} {u : Value} {z : List Int} (h : RowsC B w zs) (hb : Below w.heap.size w w1) (hu : IntsOw w.heap.size w1 u z) (hT : Typed w1 u) (hB : B ≤ w.heap.size) : RowsC B w1 (zs ++ [(u, z)]) := by
  have h1 := h.after hb
  refine ⟨fun p hp => ?_, ?_⟩
  · rcases List.mem_append.1 hp with hp | hp
    · exact h1.1 p hp
    · rw [List.mem_singleton] at hp; subst hp
      exact ⟨hu.low hB, hu.bound, hT⟩
  · rw [List.pairwise_append]
    refine ⟨h1.2, List.pairwise_singleton _ _, fun p hp q hq => ?_⟩
    rw [List.mem_singleton] at hq; subst hq
    intro b off n c off' n' c' e hn e'
    have h2 := (h.1 p hp).2.1 b off n c e hn
    obtain ⟨ao, cap, hv, _, hz⟩ := hu
    rw [hv] at e'
    injection e' with e1 e2 e3
    rcases hz with hz | ⟨b', off'', ha, hlo, _⟩
    · rw [hz] at e2; exact e2.symm
    · rw [ha] at e1
      injection e1 with e1
      injection e1 with e1
      omega
theorem RowsC.grown {B B' : Nat} {w w' : World} {zs : List (Value × List Int)} {v : Value} {n : Nat} {xs : List Value} (h : RowsC B w zs) (hown : w.ownsRow B' 28 1 v n xs) (hg : w.grownBy w' v.ownBlock) : RowsC B w' zs := by
  have key : ∀ b t, 28 ≠ t → TyAt w b t → w'.heap[b]? = w.heap[b]? := fun b t hne hT => hg.block b hT.lt (fun e => owns_ne hown hT hne e)
  refine ⟨fun p hp => ?_, h.2⟩
  obtain ⟨h1, h2, h3⟩ := h.1 p hp
  obtain ⟨ao, cap, hv, hc, hz⟩ := h1
  refine ⟨⟨ao, cap, hv, hc, ?_⟩, h2.wide hg.size, fun b off n c e hn => ?_⟩
  · rcases hz with hz | ⟨b, off, ha, hlo, hcell⟩
    · exact Or.inl hz
    · by_cases h0 : p.2.length = 0
      · left; exact List.length_eq_zero_iff.1 h0
      refine Or.inr ⟨b, off, ha, hlo, fun i hi => ?_⟩
      obtain ⟨t, hne, hT⟩ := h3 b off _ _ (by rw [hv, ha]) (by omega)
      have hk := key b t hne hT
      exact ⟨(World.cell?_of_block (w := w) (w' := w') (a := ⟨b, off + i, none⟩) hk).trans (hcell i hi).1, (World.frozen?_of_block (w := w) (w' := w') (a := ⟨b, off + i, none⟩) hk).trans (hcell i hi).2⟩
  · obtain ⟨t, hne, hT⟩ := h3 b off n c e hn
    have hk := key b t hne hT
    obtain ⟨cur, f, hh⟩ := hT
    exact ⟨t, hne, cur, f, hk.trans hh⟩
theorem RowsC.low {B B' : Nat} {w : World} {zs : List (Value × List Int)} (h : RowsC B w zs) (hB : B' ≤ B) : RowsC B' w zs := ⟨fun p hp => ⟨(h.1 p hp).1.low hB, (h.1 p hp).2⟩, h.2⟩

/-- a slice of slices that the call owns whole -/
def RowsOw (B : Nat) (w : World) (v : Value) (L : List (List Int)) : Prop :=
  ∃ zs : List (Value × List Int), w.ownsRow B 28 1 v L.length (zs.map Prod.fst) ∧ RowsC B w zs ∧ zs.map Prod.snd = L
theorem RowsOw.nil (B : Nat) (w : World) : RowsOw B w (.slice none 0 0) [] := ⟨[], World.ownsRow_nil _ _ _ _, RowsC.nil _ _, rfl⟩
theorem RowsOw.after {B : Nat} {w w' : World} {v : Value} {L : List (List Int)} (h : RowsOw B w v L) (hb : Below w.heap.size w w') : RowsOw B w' v L := by
  obtain ⟨zs, h1, h2, h3⟩ := h
  exact ⟨zs, owns_after h1 hb, h2.after hb, h3⟩
theorem RowsOw.low {B B' : Nat} {w : World} {v : Value} {L : List (List Int)} (h : RowsOw B w v L) (hB : B' ≤ B) : RowsOw B' w v L := by
  obtain ⟨zs, h1, h2, h3⟩ := h
  exact ⟨zs, Go.Joins.ownsRow_le h1 hB, h2.low hB, h3⟩
theorem RowsOw.at {B : Nat} {w : World} {v : Value} {L : List (List Int)} (h : RowsOw B w v L) : RowsIn B w.heap.size w v L := by
  obtain ⟨zs, h1, h2, rfl⟩ := h
  have hl : (zs.map Prod.snd).length = zs.length := List.length_map _
  rcases h1.2 with ⟨rfl, h0⟩ | ⟨g, cap, cur, rfl, hB, hg, hk, hm, hs, ht⟩
  · exact ⟨none, 0, by rw [h0], by rw [h0]; exact Nat.le_refl _, Or.inl h0⟩
  · refine ⟨_, cap, rfl, hk, Or.inr ⟨g, 0, rfl, hB, (Array.getElem?_eq_some_iff.1 hg).1, fun i hi => ?_⟩⟩
    have hi' : i < zs.length := by omega
    have hp := h2.1 zs[i] (List.getElem_mem hi')
    have e2 : rwN (zs.map Prod.snd) i = zs[i].2 := by rw [rwN_get hi]; simp
    obtain ⟨ao, c, hv, _⟩ := hp.1
    refine ⟨ao, c, ?_, ?_⟩
    · rw [e2, ← hv]
      have hc : cur[i]? = some zs[i].1 := by
        have h3 : (cur.toList.take ((zs.map Prod.snd).length * 1))[i]? = some zs[i].1 := by rw [ht]; simp [hi']
        rw [List.getElem?_take_of_lt (by omega)] at h3
        rw [← Array.getElem?_toList]; exact h3
      rw [Nat.zero_add]
      simp [World.cell?, hg, hc]
    · rw [e2, ← hv]; exact ⟨hp.1.at, hp.2.1⟩
theorem RowsOw.cap {B : Nat} {w : World} {v : Value} {L : List (List Int)} (h : RowsOw B w v L) : ∃ a c, v = .slice a L.length c ∧ L.length ≤ c := by
  obtain ⟨ao, cap, hv, hc, _⟩ := h.at
  exact ⟨ao, cap, hv, hc⟩
/-- a call returns rows of its own and a bool -/
def RetOr (w : World) (L : List (List Int)) (b : Bool) (e : Ending) (w' : World) : Prop := ∃ v, e = .returned (.tuple #[v, .bool b]) ∧ RowsOw w.heap.size w' v L ∧ Below w.heap.size w w'

end Go.Proofs.Ytgmnknlnlmcmfaa
