/- BOXES of cells that may be written; WALKS: markStringS, toStringS once more.
   PLAIN PART: three cells in a row are written. No program is named here.
   APPEND of a transition onto a row of the call's own; rows of transitions whose lists are owned rows.
   ints of its own and a bool: what a call returns.
   OWNED RESULTS of the laws, in one form for each kind of row: ints. -/
import Derived.Test.YtnmoocgocnjdjaaGreatVMtext
import Derived.Test.YtnmoocgocnjdjaaGreatVNetb
import Derived.Test.YtnmoocgocnjdjaaGreatVApb
import Derived.Test.YtnmoocgocnjdjaaGreatVSrt
import Derived.Test.YtnmoocgocnjdjaaGreatVNetc
namespace Go.Proofs.YtnmoocgocnjdjaaGreat
open Go.RowKit

/-- n elements of sz cells each that may be written, in a block from lo on, before hi -/
def CellBox (lo hi : Nat) (w : World) (v : Value) (n sz : Nat) : Prop :=
  ∃ (ao : Option Addr) (cap : Nat), v = .slice ao n cap ∧
    (n = 0 ∨ ∃ b off, ao = some ⟨b, off, none⟩ ∧ lo ≤ b ∧ b < hi ∧ ∀ i, i < n * sz → (∃ u, w.cell? ⟨b, off + i, none⟩ = some u) ∧ w.frozen? ⟨b, off + i, none⟩ = false)
theorem CellBox.form {lo hi : Nat} {w : World} {v : Value} {n sz : Nat} (h : CellBox lo hi w v n sz) : ∃ a c, v = .slice a n c := by
  obtain ⟨a, c, rfl, _⟩ := h
  exact ⟨a, c, rfl⟩
theorem CellBox.stir {lo hi l k : Nat} {w w' : World} {v : Value} {n sz : Nat} (h : CellBox lo hi w v n sz) (hs : Stir l k w w') (hc : hi ≤ l ∨ k ≤ lo) : CellBox lo hi w' v n sz := by
  obtain ⟨ao, cap, hv, hz⟩ := h
  refine ⟨ao, cap, hv, ?_⟩
  rcases hz with hz | ⟨b, off, ha, h1, h2, hcell⟩
  · exact Or.inl hz
  · refine Or.inr ⟨b, off, ha, h1, h2, fun i hi => ?_⟩
    obtain ⟨⟨u, hu⟩, hf⟩ := hcell i hi
    have hb := cell_old hu
    exact ⟨⟨u, hs.cell (by simp; omega) hu⟩, (hs.frozen (by simp; omega) hb).trans hf⟩
theorem CellBox.wide {lo hi lo' hi' : Nat} {w : World} {v : Value} {n sz : Nat} (h : CellBox lo hi w v n sz) (h1 : lo' ≤ lo) (h2 : hi ≤ hi') : CellBox lo' hi' w v n sz := by
  obtain ⟨ao, cap, hv, hz⟩ := h
  refine ⟨ao, cap, hv, ?_⟩
  rcases hz with hz | ⟨b, off, ha, q1, q2, hcell⟩
  · exact Or.inl hz
  · exact Or.inr ⟨b, off, ha, by omega, by omega, hcell⟩
theorem CellBox.after {lo hi : Nat} {w w' : World} {v : Value} {n sz : Nat} (h : CellBox lo hi w v n sz) (hb : Below w.heap.size w w') : CellBox lo hi w' v n sz := h.stir (Stir.of 0 0 hb) (Or.inr (Nat.zero_le _))
theorem CellBox.same {lo hi B : Nat} {w w' : World} {v : Value} {n sz : Nat} (h : CellBox lo hi w v n sz) (hs : Same B w w') (hB : B ≤ lo) : CellBox lo hi w' v n sz := by
  obtain ⟨ao, cap, hv, hz⟩ := h
  refine ⟨ao, cap, hv, ?_⟩
  rcases hz with hz | ⟨b, off, ha, q1, q2, hcell⟩
  · exact Or.inl hz
  · refine Or.inr ⟨b, off, ha, q1, q2, fun i hi => ?_⟩
    obtain ⟨⟨u, hu⟩, hf⟩ := hcell i hi
    have he := hs.2 b (by omega) (by have := cell_old hu; simpa using this)
    exact ⟨⟨u, (World.cell?_of_block (w := w) (w' := w') (a := ⟨b, off + i, none⟩) he).trans hu⟩, (World.frozen?_of_block (w := w) (w' := w') (a := ⟨b, off + i, none⟩) he).trans hf⟩
theorem CellBox.set {lo hi : Nat} {w : World} {v : Value} {n sz : Nat} (h : CellBox lo hi w v n sz) (p : Addr) (u : Value) : CellBox lo hi (w.setCell p u) v n sz := by
  obtain ⟨ao, cap, hv, hz⟩ := h
  refine ⟨ao, cap, hv, ?_⟩
  rcases hz with hz | ⟨b, off, ha, q1, q2, hcell⟩
  · exact Or.inl hz
  · refine Or.inr ⟨b, off, ha, q1, q2, fun i hi => ?_⟩
    obtain ⟨⟨z, hu⟩, hf⟩ := hcell i hi
    refine ⟨?_, (World.frozen?_setCell _ _ _ _).trans hf⟩
    by_cases e : p = ⟨b, off + i, none⟩
    · subst e; exact ⟨u, World.cell?_setCell_same _ _ _ hu⟩
    · exact ⟨z, (World.cell?_setCell_other _ _ _ _ e).trans hu⟩

set_option maxHeartbeats 400000 in
theorem toStringS_row (v : Value) (zs : List ByteArray) (w : World) (lo : Nat) (hv : TextsAt lo w v zs) (hn : zs.length ≤ 1048576) :
    Calls Tryz.prog 89 #[v] w (fun e w' => ∃ b, e = .returned (.slice (some ⟨b, 0, none⟩) zs.length zs.length) ∧ w.heap.size ≤ b ∧ b < w'.heap.size ∧ w'.rowIs b 9 zs.length (scopied zs zs.length) ∧ Below w.heap.size w w') := by
  obtain ⟨ao, cap, rfl, hc, hz⟩ := hv
  have hmk := run_make_row' (P := Tryz.prog) 69 9 (.string ByteArray.empty) 16 Tryz.underlying69 Tryz.infoStr rfl .i64 .i64 zs.length (by omega) (by omega)
  have HF := Lib.hid hz; clear hz
  go_enter Tryz.func89, Tryz.ntmps89
  go_wp2
  go_loopw [4] (fun i wr => ∃ k : Nat, k ≤ zs.length ∧ i = .int .i64 k ∧ wr.rowIs w.heap.size 9 zs.length (scopied zs k) ∧ Below w.heap.size w wr ∧ w.heap.size < wr.heap.size) (fun i _ => zs.length - (intOf i).toNat)
  case atStart => exact ⟨0, Nat.zero_le _, rfl, (World.rowIs_made _ _ _ _).congr (fun i _ => by simp [scopied]), (Below.refl _ _).alloc (Nat.le_refl _) _, by simp⟩
  case round =>
    obtain ⟨k, hk, rfl, hrow, hb1, hz1⟩ := hrel
    by_cases hlt : k < zs.length
    · rcases HF.out with h0 | ⟨b, off, rfl, _, hcell⟩
      · omega
      have c1 := cell_keep (hcell k hlt) hb1 (Nat.le_refl _)
      have c2 := hrow.cell hlt
      have f2 := hrow.frozen k
      clear hcell
      go_wp2
      have h3 := hrow.set k (.string (stN zs k))
      rw [scopied_step] at h3
      have h4 := hb1.setCell (p := ⟨w.heap.size, k, none⟩) (Nat.le_refl _) (.string (stN zs k))
      go_roundw
      case rel => exact ⟨k + 1, by omega, by go_num, h3, h4, by simpa using hz1⟩
      case measure => simp [intOf]; omega
    · have hkk : k = zs.length := by omega
      subst hkk
      have HR := Lib.hid hrow; clear hrow
      go_wp2
      go_ret
      exact ⟨_, rfl, Nat.le_refl _, hz1, HR.out, hb1⟩

theorem row_box {b : Nat} {t : TypeId} {w : World} {n m sz : Nat} {f : Nat → Value} (h : w.rowIs b t m f) (hm : m = n * sz) : CellBox b (b + 1) w (.slice (some ⟨b, 0, none⟩) n n) n sz := by
  refine ⟨_, _, rfl, Or.inr ⟨b, 0, rfl, Nat.le_refl _, Nat.lt_succ_self _, fun i hi => ⟨⟨f i, ?_⟩, ?_⟩⟩⟩
  · rw [Nat.zero_add]; exact h.cell (by omega)
  · exact h.frozen _

end Go.Proofs.YtnmoocgocnjdjaaGreat

namespace Go.Proofs.YtnmoocgocnjdjaaGreat
open Go.RowKit

theorem trip_put {w : World} {b c : Nat} {u0 u1 u2 : Value} (v0 v1 v2 : Value) (c0 : w.cell? ⟨b, c, none⟩ = some u0) (c1 : w.cell? ⟨b, c + 1, none⟩ = some u1) (c2 : w.cell? ⟨b, c + 2, none⟩ = some u2) :
    (((w.setCell ⟨b, c, none⟩ v0).setCell ⟨b, c + 1, none⟩ v1).setCell ⟨b, c + 2, none⟩ v2).cell? ⟨b, c, none⟩ = some v0 ∧
    (((w.setCell ⟨b, c, none⟩ v0).setCell ⟨b, c + 1, none⟩ v1).setCell ⟨b, c + 2, none⟩ v2).cell? ⟨b, c + 1, none⟩ = some v1 ∧
    (((w.setCell ⟨b, c, none⟩ v0).setCell ⟨b, c + 1, none⟩ v1).setCell ⟨b, c + 2, none⟩ v2).cell? ⟨b, c + 2, none⟩ = some v2 ∧
    ∀ i v, i ≠ c → i ≠ c + 1 → i ≠ c + 2 → w.cell? ⟨b, i, none⟩ = some v → (((w.setCell ⟨b, c, none⟩ v0).setCell ⟨b, c + 1, none⟩ v1).setCell ⟨b, c + 2, none⟩ v2).cell? ⟨b, i, none⟩ = some v := by
  have far : ∀ {i i' : Nat}, i ≠ i' → (⟨b, i, none⟩ : Addr) ≠ ⟨b, i', none⟩ := fun h e => h (by injection e)
  have s1 : (w.setCell ⟨b, c, none⟩ v0).cell? ⟨b, c, none⟩ = some v0 := World.cell?_setCell_same _ _ _ c0
  have s2 : (w.setCell ⟨b, c, none⟩ v0).cell? ⟨b, c + 1, none⟩ = some u1 := by rw [World.cell?_setCell_other _ _ _ _ (far (by omega))]; exact c1
  have s3 : (w.setCell ⟨b, c, none⟩ v0).cell? ⟨b, c + 2, none⟩ = some u2 := by rw [World.cell?_setCell_other _ _ _ _ (far (by omega))]; exact c2
  have r1 : ((w.setCell ⟨b, c, none⟩ v0).setCell ⟨b, c + 1, none⟩ v1).cell? ⟨b, c, none⟩ = some v0 := by rw [World.cell?_setCell_other _ _ _ _ (far (by omega))]; exact s1
  have r2 : ((w.setCell ⟨b, c, none⟩ v0).setCell ⟨b, c + 1, none⟩ v1).cell? ⟨b, c + 1, none⟩ = some v1 := World.cell?_setCell_same _ _ _ s2
  have r3 : ((w.setCell ⟨b, c, none⟩ v0).setCell ⟨b, c + 1, none⟩ v1).cell? ⟨b, c + 2, none⟩ = some u2 := by rw [World.cell?_setCell_other _ _ _ _ (far (by omega))]; exact s3
  refine ⟨?_, ?_, World.cell?_setCell_same _ _ _ r3, fun i v h1 h2 h3 h => ?_⟩
  · rw [World.cell?_setCell_other _ _ _ _ (far (by omega))]; exact r1
  · rw [World.cell?_setCell_other _ _ _ _ (far (by omega))]; exact r2
  · rw [World.cell?_setCell_other _ _ _ _ (far (fun e => h3 e.symm)), World.cell?_setCell_other _ _ _ _ (far (fun e => h2 e.symm)), World.cell?_setCell_other _ _ _ _ (far (fun e => h1 e.symm))]; exact h

end Go.Proofs.YtnmoocgocnjdjaaGreat

namespace Go.Proofs.YtnmoocgocnjdjaaGreat
open Go.RowKit

theorem run_append_pair (w : World) (ty : TypeId) (base : Nat) (v : Value) (n : Nat) (xs : List Value) (hown : w.ownsRow base 154 2 v n xs) (b : Nat) (u0 u1 : Value)
    (hc0 : w.cell? ⟨b, 0, none⟩ = some u0) (hc1 : w.cell? ⟨b, 1, none⟩ = some u1) (o0 : u0.oneCell' = true) (o1 : u1.oneCell' = true) (hn : n ≤ 1073741824) (hbase : base ≤ w.heap.size) :
    ∃ v' w', (Builtin.append_ #[34, 34] ty #[v, .slice (some ⟨b, 0, none⟩) 1 1]).run Tryz.prog w = .ok v' w' ∧ w'.ownsRow base 154 2 v' (n + 1) (xs ++ [u0, u1]) ∧ w.grownBy w' v.ownBlock := by
  obtain ⟨i, hi, hzz⟩ := Option.map_eq_some_iff.1 Tryz.infoTr
  simp only [Prod.mk.injEq] at hzz
  obtain ⟨hz, hs, hby⟩ := hzz
  obtain ⟨v', w', hr, h2, h3, _⟩ := run_append_own (P := Tryz.prog) w base 34 ty 154 i _ 2 48 Tryz.underlying34 hi hz hs hby rfl (by omega) v n xs hown ⟨b, 0, none⟩ 1 1 [u0, u1]
    rfl (fun j u hj => by
      match j, hj with
      | 0, hj => simp only [List.getElem?_cons_zero, Option.some.injEq] at hj; subst hj; exact hc0
      | 1, hj => simp only [List.getElem?_cons_succ, List.getElem?_cons_zero, Option.some.injEq] at hj; subst hj; exact hc1
      | (j + 2), hj => simp at hj) (fun u hu => by
      simp only [List.mem_cons, List.not_mem_nil, or_false] at hu
      rcases hu with rfl | rfl
      · exact o0
      · exact o1) (by unfold maxLen; omega) (by omega) hbase
  exact ⟨v', w', hr, h2, h3⟩

theorem wp_append_pair {o : Oper} {a : Act} {w : World} {K : Act → World → Prop} {Q : Exit → Act → World → Prop} (s x : Operand)
    (ho : o.op = .call { callee := .builtin .append, args := #[s, x], argTypes := #[34, 34] })
    (base : Nat) (v : Value) (n : Nat) (xs : List Value) (hs : a.eval s = v) (hown : w.ownsRow base 154 2 v n xs) (b : Nat) (u0 u1 : Value) (hx : a.eval x = .slice (some ⟨b, 0, none⟩) 1 1)
    (hc0 : w.cell? ⟨b, 0, none⟩ = some u0) (hc1 : w.cell? ⟨b, 1, none⟩ = some u1) (o0 : u0.oneCell' = true) (o1 : u1.oneCell' = true) (hn : n ≤ 1073741824) (hbase : base ≤ w.heap.size)
    (h : ∀ v' w', w'.ownsRow base 154 2 v' (n + 1) (xs ++ [u0, u1]) → w.grownBy w' v.ownBlock → K (a.put o.dst v') w') : o.wp Tryz.prog a w K Q := by
  obtain ⟨v', w', hr, h2, h3⟩ := run_append_pair w o.type base v n xs hown b u0 u1 hc0 hc1 o0 o1 hn hbase
  unfold Oper.wp execOp
  simp only [ho, resolve, invoke, builtin, Sem.run_bind, Sem.run_pure, Result.andThen_ok, List.map_toArray, List.map_cons, List.map_nil, hs, hx, hr]
  exact h v' w' h2 h3

/-- an int row owned by the call -/
abbrev IRow (B : Nat) (w : World) (v : Value) (zs : List Int) : Prop := w.ownsRow B 3 1 v zs.length (intCells zs)
theorem IRow.form {B : Nat} {w : World} {v : Value} {zs : List Int} (h : IRow B w v zs) : ∃ a c, v = .slice a zs.length c := by
  obtain ⟨a, c, rfl, _⟩ := ints_of_owns h
  exact ⟨a, c, rfl⟩
theorem IRow.low {B B' : Nat} {w : World} {v : Value} {zs : List Int} (h : IRow B w v zs) (hB : B' ≤ B) : IRow B' w v zs := Go.Joins.ownsRow_le h hB
/-- the block of a row of transitions is no block of a row of ints -/
theorem rows_apart {B B' : Nat} {w : World} {v v' : Value} {n n' : Nat} {xs ys : List Value} (h : w.ownsRow B 3 1 v n xs) (h' : w.ownsRow B' 154 2 v' n' ys) : v.ownBlock = none ∨ v.ownBlock ≠ v'.ownBlock := by
  rcases h.2 with ⟨rfl, _⟩ | ⟨g, cap, cur, rfl, _, hg, _⟩
  · exact Or.inl rfl
  · right
    rcases h'.2 with ⟨rfl, _⟩ | ⟨g', cap', cur', rfl, _, hg', _⟩
    · simp [Value.ownBlock]
    · intro e
      simp only [Value.ownBlock, Option.some.injEq] at e
      subst e
      rw [hg] at hg'
      simp at hg'

/-- the cells xs hold k transitions, each list an int row owned by the call -/
def OwnTrs (B : Nat) (w : World) (xs : List Value) (k : Nat) (ts : List Tr) : Prop :=
  xs.length = k * 2 ∧ ∀ i, i < k → ∃ v0 v1, xs[i * 2]? = some v0 ∧ xs[i * 2 + 1]? = some v1 ∧ IRow B w v0 (ts.getD i ([], [])).1 ∧ IRow B w v1 (ts.getD i ([], [])).2
theorem OwnTrs.zero (B : Nat) (w : World) (ts : List Tr) : OwnTrs B w [] 0 ts := ⟨rfl, fun _ h => absurd h (Nat.not_lt_zero _)⟩
theorem OwnTrs.after {B : Nat} {w w' : World} {xs : List Value} {k : Nat} {ts : List Tr} (h : OwnTrs B w xs k ts) (hb : Below w.heap.size w w') : OwnTrs B w' xs k ts := by
  refine ⟨h.1, fun i hi => ?_⟩
  obtain ⟨v0, v1, e0, e1, h0, h1⟩ := h.2 i hi
  exact ⟨v0, v1, e0, e1, owns_after h0 hb, owns_after h1 hb⟩
theorem OwnTrs.grown {B B' : Nat} {w w' : World} {xs ys : List Value} {k n : Nat} {v : Value} {ts : List Tr} (h : OwnTrs B w xs k ts) (hown : w.ownsRow B' 154 2 v n ys) (hg : w.grownBy w' v.ownBlock) : OwnTrs B w' xs k ts := by
  refine ⟨h.1, fun i hi => ?_⟩
  obtain ⟨v0, v1, e0, e1, h0, h1⟩ := h.2 i hi
  exact ⟨v0, v1, e0, e1, h0.kept hg (rows_apart h0 hown), h1.kept hg (rows_apart h1 hown)⟩
theorem OwnTrs.put {B : Nat} {w : World} {xs : List Value} {k : Nat} {ts : List Tr} {u0 u1 : Value} (h : OwnTrs B w xs k ts) (h0 : IRow B w u0 (ts.getD k ([], [])).1) (h1 : IRow B w u1 (ts.getD k ([], [])).2) : OwnTrs B w (xs ++ [u0, u1]) (k + 1) ts := by
  have hl := h.1
  refine ⟨by simp [hl]; omega, fun i hi => ?_⟩
  by_cases e : i = k
  · subst e
    refine ⟨u0, u1, ?_, ?_, h0, h1⟩
    · rw [List.getElem?_append_right (by omega), hl]; simp
    · rw [List.getElem?_append_right (by omega), hl, show i * 2 + 1 - i * 2 = 1 by omega]; rfl
  · obtain ⟨v0, v1, e0, e1, q0, q1⟩ := h.2 i (by omega)
    exact ⟨v0, v1, by rw [List.getElem?_append_left (by omega)]; exact e0, by rw [List.getElem?_append_left (by omega)]; exact e1, q0, q1⟩
theorem OwnTrs.read {B : Nat} {w : World} {xs : List Value} {v : Value} {ts : List Tr} (h : OwnTrs B w xs ts.length ts) (hown : w.ownsRow B 154 2 v ts.length xs) : TrsAt B w v ts := by
  have h0 := hown
  rcases hown.2 with ⟨rfl, hn⟩ | ⟨g, cap, cur, rfl, hb, hg, hnc, _⟩
  · have hz : ts = [] := List.eq_nil_of_length_eq_zero hn
    subst hz
    exact ⟨_, _, rfl, Nat.le_refl _, Or.inl rfl⟩
  · refine ⟨_, _, rfl, hnc, Or.inr ⟨g, 0, rfl, hb, fun i hi => ?_⟩⟩
    obtain ⟨v0, v1, e0, e1, q0, q1⟩ := h.2 i hi
    refine ⟨v0, v1, ?_, ?_, ints_of_owns q0, ints_of_owns q1⟩
    · rw [Nat.zero_add, h0.cellAt (i * 2) (by omega)]; exact e0
    · rw [Nat.zero_add, h0.cellAt (i * 2 + 1) (by omega)]; exact e1

theorem owns_set {B : Nat} {w : World} {e : TypeId} {size n : Nat} {v : Value} {xs : List Value} (h : w.ownsRow B e size v n xs) {p : Addr} (hp : p.block < B) (u : Value) : (w.setCell p u).ownsRow B e size v n xs := by
  refine h.kept (grownBy_set w p u) ?_
  cases hb : v.ownBlock with
  | none => exact Or.inl rfl
  | some g =>
    have := (h.lt g hb).1
    exact Or.inr (by simp; omega)
theorem owns_form {B : Nat} {w : World} {e : TypeId} {size n : Nat} {v : Value} {xs : List Value} (h : w.ownsRow B e size v n xs) : ∃ a c, v = .slice a n c := by
  rcases h.2 with ⟨rfl, rfl⟩ | ⟨g, cap, cur, rfl, _⟩
  · exact ⟨_, _, rfl⟩
  · exact ⟨_, _, rfl⟩
theorem OwnTrs.set {B : Nat} {w : World} {xs : List Value} {k : Nat} {ts : List Tr} (h : OwnTrs B w xs k ts) {p : Addr} (hp : p.block < B) (u : Value) : OwnTrs B (w.setCell p u) xs k ts := by
  refine ⟨h.1, fun i hi => ?_⟩
  obtain ⟨v0, v1, e0, e1, h0, h1⟩ := h.2 i hi
  exact ⟨v0, v1, e0, e1, owns_set h0 hp u, owns_set h1 hp u⟩

/-- a call returns a net that reads so, and this bool -/
def RetNB (w : World) (n : NetD) (b : Bool) (e : Ending) (w' : World) : Prop :=
  ∃ u, e = .returned (.tuple #[.agg #[.int .i64 n.places, u], .bool b]) ∧ TrsAt w.heap.size w' u n.ts ∧ Below w.heap.size w w'

end Go.Proofs.YtnmoocgocnjdjaaGreat

namespace Go.Proofs.YtnmoocgocnjdjaaGreat
open Go.RowKit

/-- a call returns ints of its own, which may be written, and this bool -/
def RetOv (w : World) (l : List Int) (b : Bool) (e : Ending) (w' : World) : Prop := ∃ v, e = .returned (.tuple #[v, .bool b]) ∧ IntsOw w.heap.size w' v l ∧ Below w.heap.size w w'

end Go.Proofs.YtnmoocgocnjdjaaGreat

namespace Go.Proofs.YtnmoocgocnjdjaaGreat
open Go.RowKit

theorem selfInts' (L : List Int) : decide (L = L) = true := decide_eq_true rfl
theorem IntsOw.cap {lo : Nat} {w : World} {v : Value} {zs : List Int} (h : IntsOw lo w v zs) : ∃ a c, v = .slice a zs.length c ∧ zs.length ≤ c := by
  obtain ⟨a, c, rfl, hc, _⟩ := h
  exact ⟨a, c, rfl, hc⟩
theorem IntsOw.after {lo : Nat} {w w' : World} {v : Value} {zs : List Int} (h : IntsOw lo w v zs) (hb : Below w.heap.size w w') : IntsOw lo w' v zs := h.keep (Same.of _ hb)
theorem IntsOw.stir {B l k : Nat} {w w' : World} {v : Value} {zs : List Int} (h : IntsOw B w v zs) (hs : Stir l k w w') (hk : k ≤ B) : IntsOw B w' v zs :=
  h.keep ⟨hs.size, fun b h1 h2 => hs.block b h2 (Or.inr (by omega))⟩
theorem IntsAt.stir {lo hi l k : Nat} {w w' : World} {v : Value} {zs : List Int} (h : IntsAt lo w v zs) (hB : Bound hi v) (hm : Stir l k w w') (hl : hi ≤ l) : IntsAt lo w' v zs := by
  obtain ⟨ao, cap, rfl, hc, hz⟩ := h
  refine ⟨ao, cap, rfl, hc, ?_⟩
  rcases hz with hz | ⟨b, off, rfl, hlo, hcell⟩
  · exact Or.inl hz
  · exact Or.inr ⟨b, off, rfl, hlo, fun i hi => hm.cell (Or.inl (by have := hB b off _ _ rfl (by omega); simp; omega)) (hcell i hi)⟩
theorem markInts_row (v : Value) (zs : List Int) (k : Int) (w : World) (B : Nat) (h : IntsOw B w v zs) (hn : zs.length ≤ 1048576) (h0 : 0 ≤ k) (h1 : k ≤ 109951162777600) :
    Calls Tryz.prog 23 #[v, .int .i64 k] w (fun e w' => e = .returned (.int .i64 (k + (zs.length : Int))) ∧ Stir B w.heap.size w w' ∧ IntsAt B w' v (upFrom k zs.length)) := by
  refine (markIntS_any v zs.length k w B w.heap.size h.box hn h0 (by omega)).mono fun e w' ⟨he, hm, hx⟩ => ⟨he, hm.stir, ?_⟩
  obtain ⟨ao, cap, rfl, hc, hz⟩ := h
  refine ⟨ao, cap, by rw [upFrom_length], by rw [upFrom_length]; exact hc, ?_⟩
  rw [upFrom_length]
  rcases hz with rfl | ⟨b, off, rfl, hlo, hcell⟩
  · left; rfl
  · refine Or.inr ⟨b, off, rfl, hlo, fun i hi => ?_⟩
    rw [upFrom_get hi]
    exact hx b off cap rfl i hi

end Go.Proofs.YtnmoocgocnjdjaaGreat
