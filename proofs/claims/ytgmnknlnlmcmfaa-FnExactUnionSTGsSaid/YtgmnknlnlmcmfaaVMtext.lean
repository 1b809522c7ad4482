/- What a graph of a call's own is: the rows of its parts.
   WALK: markText answers some string. What may be stirred: blocks from lo on, before hi. -/
import Derived.Test.YtgmnknlnlmcmfaaVCln
import Derived.Test.YtgmnknlnlmcmfaaVUnc
import Derived.Test.YtgmnknlnlmcmfaaVSep
import Derived.Test.YtgmnknlnlmcmfaaVStga
import Derived.Laws.BytesString
namespace Go.Proofs.Ytgmnknlnlmcmfaa
open Go.RowKit

abbrev sgX (ss : List Sig) : Nat → Value := fun i => .string (sgN ss i)
abbrev sgY (ss : List Sig) : Nat → Value := fun i => .int .i64 (sgK ss i)
abbrev lbX (ls : List Lab) : Nat → Value := fun i => .int .i64 (lbS ls i)
abbrev lbY (ls : List Lab) : Nat → Value := fun i => .bool (lbU ls i)

/-- a call returns a graph of its own, its transitions' lists apart -/
def RetCopyS (w : World) (s : StgD) (e : Ending) (w' : World) : Prop :=
  ∃ (R B : Nat) (c : Nat → Nat) (vs vl : Value), e = .returned (.agg #[.int .i64 s.net.places, .slice (some ⟨R, 0, none⟩) s.net.ts.length s.net.ts.length, vs, vl, .string s.start]) ∧
    w.heap.size ≤ R ∧ R < c 0 ∧ (∀ i, c i ≤ B) ∧ B ≤ w'.heap.size ∧ SepRow c R w' s.net.ts.length s.net.ts.length s.net.ts ∧
    w'.ownsRow B 118 2 vs s.sigs.length (pairCells (sgX s.sigs) (sgY s.sigs) s.sigs.length) ∧
    w'.ownsRow B 113 2 vl s.labs.length (pairCells (lbX s.labs) (lbY s.labs) s.labs.length) ∧ Below w.heap.size w w'


end Go.Proofs.Ytgmnknlnlmcmfaa

namespace Go.Proofs.Ytgmnknlnlmcmfaa
open Go.RowKit

theorem conv_one (w : World) (e : TypeId) (z : Int) : (convert 200 9 (.slice (some ⟨w.heap.size, 0, none⟩) 1 1)).run Try.prog (w.alloc (.cells #[.int .u8 z] e)) = .ok (.string (ByteArray.empty.push (UInt8.ofNat z.toNat))) (w.alloc (.cells #[.int .u8 z] e)) := by
  rw [run_convert_bytes_string _ 200 9 5 _ _ _ Try.underlying200 Try.underlying5 Try.underlying9]
  have hl := run_loadCells_list (P := Try.prog) (w.alloc (.cells #[.int .u8 z] e)) ⟨w.heap.size, 0, none⟩ [.int .u8 z] (fun j v hv => by
    match j, hv with
    | 0, hv => simp only [List.getElem?_cons_zero, Option.some.injEq] at hv; subst hv; simp [Addr.add]
    | (j + 1), hv => simp at hv)
  exact run_bytesToString _ ⟨w.heap.size, 0, none⟩ 1 1 [z] hl

set_option maxHeartbeats 1000000 in
theorem markText_any (k : Int) (w : World) (h0 : 0 ≤ k) (h1 : k ≤ 1099511627776000) :
    Calls Try.prog 124 #[.int .i64 k] w (fun e w' => ∃ s, e = .returned (.string s) ∧ Below w.heap.size w w') := by
  have kc := conv_one
  go_enter Try.func124, Try.ntmps124
  by_cases hk : k ≤ 0
  · go_wp2_with fail
    go_ret
    exact ⟨_, rfl, Below.refl _ _⟩
  go_wp2_with fail
  go_loopw [0, 3] (fun nv sv wr => ∃ (x : Int) (s : ByteArray), 0 ≤ x ∧ (s.size : Int) + x ≤ k ∧ nv = .int .i64 x ∧ sv = .string s ∧ Below w.heap.size w wr) (fun nv _ _ => (intOf nv).toNat)
  case atStart => exact ⟨k, ByteArray.empty, h0, by show ((0 : Nat) : Int) + k ≤ k; omega, rfl, rfl, Below.refl _ _⟩
  case round =>
    obtain ⟨x, s, hx0, hx1, rfl, rfl, hb1⟩ := hrel
    have zz1 := hb1.size
    by_cases hlt : 0 < x
    · have e1 : x.tdiv 10 = x / 10 := Int.tdiv_eq_ediv_of_nonneg hx0
      have e2 : x.tmod 10 = x % 10 := Int.tmod_eq_emod_of_nonneg hx0
      have q0 : 0 ≤ x / 10 := by omega
      have q1 : x / 10 ≤ x := by omega
      have q2 : x / 10 < x := by omega
      have r0 : 0 ≤ x % 10 := by omega
      have r1 : x % 10 ≤ 9 := by omega
      have hsz : (ByteArray.empty.push (UInt8.ofNat (48 + x % 10).toNat) ++ s).size = 1 + s.size := by rw [ByteArray.size_append]; rfl
      have hsz2 : (ByteArray.empty.push (UInt8.ofNat (48 + x % 10).toNat)).size = 1 := rfl
      go_wp2_with fail
      go_roundw
      case rel => exact ⟨x / 10, _, q0, by rw [hsz]; omega, by go_num, rfl, by (repeat' (first | (with_reducible exact Below.refl _ _) | (with_reducible assumption) | (with_reducible refine Below.alloc ?_ ?_ _) | (with_reducible refine Below.drew ?_) | (with_reducible refine below_drewN ?_ _) | (with_reducible refine Below.setCell ?_ ?_ _) | go_size))⟩
      case measure => simp [intOf]; omega
    · have hsz3 : (s.size : Int) ≤ k := by omega
      go_wp2_with fail
      go_ret
      first
        | exact ⟨_, rfl, hb1⟩
        | exact ⟨⟨_, rfl⟩, hb1⟩

/-- the blocks from lo on, before hi, may have changed; of the others that were there none -/
structure Stir (lo hi : Nat) (w w' : World) : Prop where
  os : w'.os = w.os
  tape : w'.tape = w.tape
  output : w'.output = w.output
  size : w.heap.size ≤ w'.heap.size
  block : ∀ b, b < w.heap.size → (b < lo ∨ hi ≤ b) → w'.heap[b]? = w.heap[b]?
theorem Stir.of {w w' : World} (lo hi : Nat) (h : Below w.heap.size w w') : Stir lo hi w w' := ⟨h.os, h.tape, h.output, h.size, fun b hb _ => h.block b hb⟩
theorem Stir.refl (lo hi : Nat) (w : World) : Stir lo hi w w := Stir.of lo hi (Below.refl _ _)
theorem Stir.trans {lo hi : Nat} {a b c : World} (h : Stir lo hi a b) (k : Stir lo hi b c) : Stir lo hi a c :=
  ⟨k.os.trans h.os, k.tape.trans h.tape, k.output.trans h.output, Nat.le_trans h.size k.size, fun x hx hc => (k.block x (Nat.lt_of_lt_of_le hx h.size) hc).trans (h.block x hx hc)⟩
theorem Stir.wide {lo hi lo' hi' : Nat} {w w' : World} (h : Stir lo hi w w') (h1 : lo' ≤ lo) (h2 : hi ≤ hi') : Stir lo' hi' w w' :=
  ⟨h.os, h.tape, h.output, h.size, fun b hb hc => h.block b hb (by omega)⟩
theorem Stir.set {lo hi : Nat} {a w : World} (h : Stir lo hi a w) {p : Addr} (h1 : lo ≤ p.block) (h2 : p.block < hi) (u : Value) : Stir lo hi a (w.setCell p u) :=
  h.trans ⟨rfl, rfl, rfl, by simp, fun b _ hc => Below.heap_setCell _ _ _ _ (by omega)⟩
theorem Marks.stir {lo hi : Nat} {w w' : World} (h : Marks lo hi w w') : Stir lo hi w w' := ⟨h.os, h.tape, h.output, by rw [h.size]; exact Nat.le_refl _, fun b _ hc => h.block b hc⟩
theorem Stir.cell {lo hi : Nat} {w w' : World} {a : Addr} {v : Value} (h : Stir lo hi w w') (ha : a.block < lo ∨ hi ≤ a.block) (hc : w.cell? a = some v) : w'.cell? a = some v :=
  (World.cell?_of_block (h.block a.block (cell_old hc) ha)).trans hc
theorem Stir.frozen {lo hi : Nat} {w w' : World} {a : Addr} (h : Stir lo hi w w') (ha : a.block < lo ∨ hi ≤ a.block) (hb : a.block < w.heap.size) : w'.frozen? a = w.frozen? a :=
  World.frozen?_of_block (h.block a.block hb ha)
theorem Stir.below {lo hi B : Nat} {a w w' : World} (h : Stir lo hi w w') (hb : Below B a w) (hB : B ≤ lo) (hB2 : B ≤ w.heap.size) : Below B a w' :=
  hb.trans ⟨h.os, h.tape, h.output, h.size, fun k hk => h.block k (Nat.lt_of_lt_of_le hk hB2) (Or.inl (by omega))⟩

/-- n pairs of cells that may be written, in a block from lo on, before hi -/
def PairBox (lo hi : Nat) (w : World) (v : Value) (n : Nat) : Prop :=
  ∃ (ao : Option Addr) (cap : Nat), v = .slice ao n cap ∧
    (n = 0 ∨ ∃ b off, ao = some ⟨b, off, none⟩ ∧ lo ≤ b ∧ b < hi ∧ ∀ i, i < n * 2 → (∃ u, w.cell? ⟨b, off + i, none⟩ = some u) ∧ w.frozen? ⟨b, off + i, none⟩ = false)
theorem PairBox.form {lo hi : Nat} {w : World} {v : Value} {n : Nat} (h : PairBox lo hi w v n) : ∃ a c, v = .slice a n c := by
  obtain ⟨a, c, rfl, _⟩ := h
  exact ⟨a, c, rfl⟩
theorem PairBox.stir {lo hi l k : Nat} {w w' : World} {v : Value} {n : Nat} (h : PairBox lo hi w v n) (hs : Stir l k w w') (hc : hi ≤ l ∨ k ≤ lo) : PairBox lo hi w' v n := by
  obtain ⟨ao, cap, hv, hz⟩ := h
  refine ⟨ao, cap, hv, ?_⟩
  rcases hz with hz | ⟨b, off, ha, h1, h2, hcell⟩
  · exact Or.inl hz
  · refine Or.inr ⟨b, off, ha, h1, h2, fun i hi => ?_⟩
    obtain ⟨⟨u, hu⟩, hf⟩ := hcell i hi
    have hb := cell_old hu
    exact ⟨⟨u, hs.cell (by simp; omega) hu⟩, (hs.frozen (by simp; omega) hb).trans hf⟩

end Go.Proofs.Ytgmnknlnlmcmfaa
