/- THE EXPLORER in the world: rows of markings, its block, its map, what stays while one part grows. -/
import Derived.Test.YtigkgfdnnfmmmaaVMk
import Derived.Test.YtigkgfdnnfmmmaaVMrw
import Derived.Test.YtigkgfdnnfmmmaaVWrm
import Derived.Deep.AppendLies
namespace Go.Proofs.Ytigkgfdnnfmmmaa
open Go.RowKit Go.Maps

/-! rows of markings -/
def mkC (m : ByteArray) : List Value := arr (pad (bytes m))
theorem mkC_length {m : ByteArray} (h : m.size ≤ 30) : (mkC m).length = 30 := by unfold mkC; rw [arr_length, pad_length (by rw [bytes_length]; exact h)]
def mkCells : List ByteArray → List Value
  | [] => []
  | m :: ms => mkC m ++ mkCells ms
def SzM (ms : List ByteArray) : Prop := ∀ a, a < ms.length → (stN ms a).size ≤ 30
theorem SzM.tail {m : ByteArray} {ms : List ByteArray} (h : SzM (m :: ms)) : m.size ≤ 30 ∧ SzM ms :=
  ⟨by have := h 0 (by simp); simpa [stN] using this, fun a ha => by have := h (a + 1) (by simpa using ha); simpa [stN] using this⟩
theorem mkCells_length : ∀ ms : List ByteArray, SzM ms → (mkCells ms).length = ms.length * 30
  | [], _ => rfl
  | m :: ms, h => by
    rw [mkCells, List.length_append, mkC_length h.tail.1, mkCells_length ms h.tail.2, List.length_cons, Nat.succ_mul, Nat.add_comm]
theorem mkCells_append : ∀ a b : List ByteArray, mkCells (a ++ b) = mkCells a ++ mkCells b
  | [], _ => rfl
  | m :: ms, b => by rw [List.cons_append, mkCells, mkCells, mkCells_append ms b, List.append_assoc]
theorem mkCells_get : ∀ (ms : List ByteArray) (k j : Nat), SzM ms → k < ms.length → j < 30 → (mkCells ms)[k * 30 + j]? = (mkC (stN ms k))[j]?
  | [], k, j, _, h, _ => absurd h (Nat.not_lt_zero _)
  | m :: ms, 0, j, hs, _, hj => by
    rw [mkCells, List.getElem?_append_left (by rw [mkC_length hs.tail.1]; omega), Nat.zero_mul, Nat.zero_add]; rfl
  | m :: ms, k + 1, j, hs, h, hj => by
    rw [mkCells, List.getElem?_append_right (by rw [mkC_length hs.tail.1]; omega), mkC_length hs.tail.1, show (k + 1) * 30 + j - 30 = k * 30 + j by omega, mkCells_get ms k j hs.tail.2 (by simpa using h) hj]
    rfl
abbrev KRow (B : Nat) (w : World) (v : Value) (ms : List ByteArray) : Prop := w.ownsRow B 111 30 v ms.length (mkCells ms)
theorem KRow.form {B : Nat} {w : World} {v : Value} {ms : List ByteArray} (h : KRow B w v ms) (hp : 0 < ms.length) : ∃ g c, v = .slice (some ⟨g, 0, none⟩) ms.length c ∧ ms.length ≤ c ∧ B ≤ g := by
  rcases h.2 with ⟨rfl, hn⟩ | ⟨g, cap, cur, rfl, hb, hg, hnc, _⟩
  · omega
  · exact ⟨g, cap, rfl, hnc, hb⟩
theorem KRow.range {B g c : Nat} {w : World} {ms : List ByteArray} (h : KRow B w (.slice (some ⟨g, 0, none⟩) ms.length c) ms) (hs : SzM ms) {k : Nat} (hk : k < ms.length) : w.rangeAt g (k * 30) (mkC (stN ms k)) := fun j v hv => by
  have hj : j < 30 := by
    have := (List.getElem?_eq_some_iff.1 hv).1
    rw [mkC_length (hs k hk)] at this
    exact this
  rw [h.cellAt (k * 30 + j) (by omega), mkCells_get ms k j hs hk hj]
  exact hv
theorem Try.infoMkz : (Try.prog.info? 111).map (fun i => (i.zero, i.size, i.bytes)) = some (some (.agg (arr zeros).toArray), 30, 30) := by kernel_rfl

/-- append of one marking, whose cells a fresh block holds -/
theorem run_append_mk (w : World) (ty : TypeId) (base : Nat) (v : Value) (ls : List ByteArray) (hown : KRow base w v ls) (b : Nat) (m : ByteArray) (hm : m.size ≤ 30) (hc : w.rangeAt b 0 (mkC m)) (hn : ls.length ≤ 1073741824) (hbase : base ≤ w.heap.size) :
    ∃ g cap w', (Builtin.append_ #[83, 83] ty #[v, .slice (some ⟨b, 0, none⟩) 1 1]).run Try.prog w = .ok (.slice (some ⟨g, 0, none⟩) (ls.length + 1) cap) w' ∧ KRow base w' (.slice (some ⟨g, 0, none⟩) (ls.length + 1) cap) (ls ++ [m]) ∧ w.grownBy w' v.ownBlock ∧ (v.ownBlock = some g ∨ g = w.heap.size) ∧ g < w'.heap.size := by
  obtain ⟨i, hi, hzz⟩ := Option.map_eq_some_iff.1 Try.infoMkz
  simp only [Prod.mk.injEq] at hzz
  obtain ⟨hz, hsz, hby⟩ := hzz
  obtain ⟨g, cap, w', hr, h2, h3, h4, h5⟩ := run_append_lies (P := Try.prog) w 83 ty base 111 i _ 30 30 Try.underlying83 hi hz hsz hby (by simp [arr_length, zeros_length, Value.cells]) (by omega) v _ _ hown ⟨b, 0, none⟩ 1 1 (mkC m)
    (by rw [mkC_length hm]) (fun j u hj => by rw [Addr.add_mid]; exact hc j u hj) (fun u hu => arr_one _ u hu) (by omega) (by unfold maxLen; omega) (by omega) hbase _ rfl
  refine ⟨g, cap, w', hr, ?_, h3, h4, h5⟩
  show w'.ownsRow base _ 30 _ (ls ++ [m]).length (mkCells (ls ++ [m]))
  rw [mkCells_append, List.length_append]
  show w'.ownsRow base _ 30 _ (ls.length + 1) (mkCells ls ++ (mkC m ++ []))
  rw [List.append_nil]
  exact h2

/-! the explorer's block -/
/-- the explorer in block E, its map in block M, from block B on -/
structure XpAt (B E M : Nat) (w : World) (P : Int) (vt vm vv : Value) (k t : Int) (rf : Bool) (s : ExS) : Prop where
  c0 : w.cell? ⟨E, 0, none⟩ = some (.int .i64 P)
  c1 : w.cell? ⟨E, 1, none⟩ = some vt
  c2 : w.cell? ⟨E, 2, none⟩ = some (.map (some M))
  c3 : w.cell? ⟨E, 3, none⟩ = some vm
  c4 : w.cell? ⟨E, 4, none⟩ = some vv
  c5 : w.cell? ⟨E, 5, none⟩ = some (.int .i64 k)
  c6 : w.cell? ⟨E, 6, none⟩ = some (.int .i64 t)
  c7 : w.cell? ⟨E, 7, none⟩ = some (.bool rf)
  fr : ∀ i, w.frozen? ⟨E, i, none⟩ = false
  ty : TyAt w E 85
  bE : B ≤ E
  bM : B ≤ M
  mp : w.ownsMap (H := Unit) Try.prog 111 (plainElem Try.prog 3) M s.ms.length (numSet s.ms)
  rm : KRow B w vm s.ms
  rv : MRow B w vv s.mv
section
variable {B E M : Nat} {w w' : World} {P : Int} {vt vm vv : Value} {k t : Int} {rf : Bool} {s : ExS}
theorem map_ty {H : Type} {D : DataW H} {R : Value → Option (DataW H × List MemPlace)} {n g : Nat} {kt ty : TypeId} (h : w.ownsMap Try.prog kt R M n D) (hT : TyAt w g ty) : M ≠ g := by
  rintro rfl
  obtain ⟨cur, f, e⟩ := hT
  obtain ⟨es, clock, hb, _⟩ := h
  rw [hb] at e
  cases e
theorem map_own {H : Type} {D : DataW H} {R : Value → Option (DataW H × List MemPlace)} {n b sz m : Nat} {kt ty : TypeId} {v : Value} {xs : List Value} (h : w.ownsMap Try.prog kt R M n D) (ho : w.ownsRow b ty sz v m xs) : some M ≠ v.ownBlock := by
  rcases ho.2 with ⟨rfl, _⟩ | ⟨g, cap, cur, rfl, _, hg, _⟩
  · simp [Value.ownBlock]
  · intro e
    simp only [Value.ownBlock, Option.some.injEq] at e
    exact map_ty h ⟨_, _, hg⟩ e
theorem XpAt.after (h : XpAt B E M w P vt vm vv k t rf s) (hb : Below w.heap.size w w') : XpAt B E M w' P vt vm vv k t rf s := by
  have C := Carries.of 0 hb
  exact ⟨cell_carry h.c0 C, cell_carry h.c1 C, cell_carry h.c2 C, cell_carry h.c3 C, cell_carry h.c4 C, cell_carry h.c5 C, cell_carry h.c6 C, cell_carry h.c7 C, fun i => (hb.frozen (p := ⟨E, i, none⟩) h.ty.lt).trans (h.fr i), h.ty.keep hb, h.bE, h.bM,
    h.mp.kept (row := none) ⟨hb.os, hb.tape, hb.output, hb.size, fun b hb1 _ => hb.block b hb1⟩ (by simp), owns_after h.rm hb, owns_after h.rv hb⟩
theorem cell_far {w : World} {b i j : Nat} {v u : Value} (h : w.cell? ⟨b, i, none⟩ = some v) (hne : j ≠ i) : (w.setCell ⟨b, j, none⟩ u).cell? ⟨b, i, none⟩ = some v :=
  (World.cell?_setCell_other _ _ _ _ (by intro e; injection e with e1 e2; exact hne e2)).trans h
/-- a plain field is set -/
theorem XpAt.setK (h : XpAt B E M w P vt vm vv k t rf s) (k' : Int) : XpAt B E M (w.setCell ⟨E, 5, none⟩ (.int .i64 k')) P vt vm vv k' t rf s :=
  ⟨cell_far h.c0 (by decide), cell_far h.c1 (by decide), cell_far h.c2 (by decide), cell_far h.c3 (by decide), cell_far h.c4 (by decide), World.cell?_setCell_same _ _ _ h.c5, cell_far h.c6 (by decide), cell_far h.c7 (by decide), fun i => by rw [World.frozen?_setCell]; exact h.fr i, h.ty.set _ _, h.bE, h.bM,
    h.mp.setCell (a := ⟨E, 5, none⟩) (map_ty h.mp h.ty) _, owns_setT h.rm (p := ⟨E, 5, none⟩) h.ty (by decide) _, owns_setT h.rv (p := ⟨E, 5, none⟩) h.ty (by decide) _⟩
theorem XpAt.setT (h : XpAt B E M w P vt vm vv k t rf s) (t' : Int) : XpAt B E M (w.setCell ⟨E, 6, none⟩ (.int .i64 t')) P vt vm vv k t' rf s :=
  ⟨cell_far h.c0 (by decide), cell_far h.c1 (by decide), cell_far h.c2 (by decide), cell_far h.c3 (by decide), cell_far h.c4 (by decide), cell_far h.c5 (by decide), World.cell?_setCell_same _ _ _ h.c6, cell_far h.c7 (by decide), fun i => by rw [World.frozen?_setCell]; exact h.fr i, h.ty.set _ _, h.bE, h.bM,
    h.mp.setCell (a := ⟨E, 6, none⟩) (map_ty h.mp h.ty) _, owns_setT h.rm (p := ⟨E, 6, none⟩) h.ty (by decide) _, owns_setT h.rv (p := ⟨E, 6, none⟩) h.ty (by decide) _⟩
theorem XpAt.setR (h : XpAt B E M w P vt vm vv k t rf s) (r' : Bool) : XpAt B E M (w.setCell ⟨E, 7, none⟩ (.bool r')) P vt vm vv k t r' s :=
  ⟨cell_far h.c0 (by decide), cell_far h.c1 (by decide), cell_far h.c2 (by decide), cell_far h.c3 (by decide), cell_far h.c4 (by decide), cell_far h.c5 (by decide), cell_far h.c6 (by decide), World.cell?_setCell_same _ _ _ h.c7, fun i => by rw [World.frozen?_setCell]; exact h.fr i, h.ty.set _ _, h.bE, h.bM,
    h.mp.setCell (a := ⟨E, 7, none⟩) (map_ty h.mp h.ty) _, owns_setT h.rm (p := ⟨E, 7, none⟩) h.ty (by decide) _, owns_setT h.rv (p := ⟨E, 7, none⟩) h.ty (by decide) _⟩
/-- what stays while a block other than the explorer's grows -/
theorem XpAt.mid (h : XpAt B E M w P vt vm vv k t rf s) {row : Option Nat} (hg : w.grownBy w' row) (hn : some E ≠ row) :
    (w'.cell? ⟨E, 0, none⟩ = some (.int .i64 P) ∧ w'.cell? ⟨E, 1, none⟩ = some vt ∧ w'.cell? ⟨E, 2, none⟩ = some (.map (some M)) ∧ w'.cell? ⟨E, 3, none⟩ = some vm ∧ w'.cell? ⟨E, 4, none⟩ = some vv ∧ w'.cell? ⟨E, 5, none⟩ = some (.int .i64 k) ∧ w'.cell? ⟨E, 6, none⟩ = some (.int .i64 t) ∧ w'.cell? ⟨E, 7, none⟩ = some (.bool rf)) ∧ (∀ i, w'.frozen? ⟨E, i, none⟩ = false) ∧ TyAt w' E 85 :=
  ⟨⟨hg.cell h.c0 hn, hg.cell h.c1 hn, hg.cell h.c2 hn, hg.cell h.c3 hn, hg.cell h.c4 hn, hg.cell h.c5 hn, hg.cell h.c6 hn, hg.cell h.c7 hn⟩, fun i => (World.frozen?_of_block (a := ⟨E, i, none⟩) (hg.block E h.ty.lt hn)).trans (h.fr i), h.ty.grown hg hn⟩
/-- one more mark: its number in the map, then its row -/
structure XpMid (B E M : Nat) (w : World) (P : Int) (vt vm vv : Value) (k t : Int) (rf : Bool) (s : ExS) (m : ByteArray) : Prop where
  c0 : w.cell? ⟨E, 0, none⟩ = some (.int .i64 P)
  c1 : w.cell? ⟨E, 1, none⟩ = some vt
  c2 : w.cell? ⟨E, 2, none⟩ = some (.map (some M))
  c3 : w.cell? ⟨E, 3, none⟩ = some vm
  c4 : w.cell? ⟨E, 4, none⟩ = some vv
  c5 : w.cell? ⟨E, 5, none⟩ = some (.int .i64 k)
  c6 : w.cell? ⟨E, 6, none⟩ = some (.int .i64 t)
  c7 : w.cell? ⟨E, 7, none⟩ = some (.bool rf)
  fr : ∀ i, w.frozen? ⟨E, i, none⟩ = false
  ty : TyAt w E 85
  bE : B ≤ E
  bM : B ≤ M
  mp : w.ownsMap (H := Unit) Try.prog 111 (plainElem Try.prog 3) M (s.ms.length + 1) (numSet (s.ms ++ [m]))
  rm : KRow B w vm s.ms
  rv : MRow B w vv s.mv
theorem XpAt.pushM (h : XpAt B E M w P vt vm vv k t rf s) {m : ByteArray} (hg : w.grownBy w' (some M)) (hm : w'.ownsMap (H := Unit) Try.prog 111 (plainElem Try.prog 3) M (s.ms.length + 1) ((numSet s.ms).put (keyP m) (.lit (.int .i64 (s.ms.length : Int))))) : XpMid B E M w' P vt vm vv k t rf s m := by
  have hn : some E ≠ some M := fun e => map_ty h.mp h.ty (by injection e with e; exact e.symm)
  obtain ⟨⟨k0, k1, k2, k3, k4, k5, k6, k7⟩, kf, kT⟩ := h.mid hg hn
  refine ⟨k0, k1, k2, k3, k4, k5, k6, k7, kf, kT, h.bE, h.bM, by rw [numSet_app]; exact hm, h.rm.kept hg ?_, h.rv.kept hg ?_⟩
  · exact Or.inr fun e => map_own h.mp h.rm e.symm
  · exact Or.inr fun e => map_own h.mp h.rv e.symm
theorem XpMid.alloc {m : ByteArray} (h : XpMid B E M w P vt vm vv k t rf s m) (hb : Below w.heap.size w w') : XpMid B E M w' P vt vm vv k t rf s m := by
  have C := Carries.of 0 hb
  exact ⟨cell_carry h.c0 C, cell_carry h.c1 C, cell_carry h.c2 C, cell_carry h.c3 C, cell_carry h.c4 C, cell_carry h.c5 C, cell_carry h.c6 C, cell_carry h.c7 C, fun i => (hb.frozen (p := ⟨E, i, none⟩) h.ty.lt).trans (h.fr i), h.ty.keep hb, h.bE, h.bM,
    h.mp.kept (row := none) ⟨hb.os, hb.tape, hb.output, hb.size, fun b hb1 _ => hb.block b hb1⟩ (by simp), owns_after h.rm hb, owns_after h.rv hb⟩
theorem XpMid.row {m : ByteArray} {v' : Value} (h : XpMid B E M w P vt vm vv k t rf s m) (hg : w.grownBy w' vm.ownBlock) (hr : KRow B w' v' (s.ms ++ [m])) : XpAt B E M (w'.setCell ⟨E, 3, none⟩ v') P vt v' vv k t rf ⟨s.ms ++ [m], s.mv⟩ := by
  have hn := owns_ne h.rm h.ty (by decide)
  have kT := h.ty.grown hg hn
  have hmp := h.mp.kept hg (map_own h.mp h.rm)
  refine ⟨cell_far (hg.cell h.c0 hn) (by decide), cell_far (hg.cell h.c1 hn) (by decide), cell_far (hg.cell h.c2 hn) (by decide), World.cell?_setCell_same _ _ _ (hg.cell h.c3 hn), cell_far (hg.cell h.c4 hn) (by decide), cell_far (hg.cell h.c5 hn) (by decide), cell_far (hg.cell h.c6 hn) (by decide), cell_far (hg.cell h.c7 hn) (by decide), fun i => by rw [World.frozen?_setCell]; exact (World.frozen?_of_block (a := ⟨E, i, none⟩) (hg.block E h.ty.lt hn)).trans (h.fr i), kT.set _ _, h.bE, h.bM, ?_, ?_, ?_⟩
  · rw [List.length_append]
    exact hmp.setCell (a := ⟨E, 3, none⟩) (map_ty hmp kT) _
  · exact owns_setT hr (p := ⟨E, 3, none⟩) kT (by decide) _
  · exact owns_setT (h.rv.kept hg (rows_apartT h.rv h.rm (by decide))) (p := ⟨E, 3, none⟩) kT (by decide) _
/-- one more move -/
theorem XpAt.pushV (h : XpAt B E M w P vt vm vv k t rf s) {v' : Value} {mv' : List Mv} (hg : w.grownBy w' vv.ownBlock) (hr : MRow B w' v' mv') : XpAt B E M (w'.setCell ⟨E, 4, none⟩ v') P vt vm v' k t rf ⟨s.ms, mv'⟩ := by
  have hn := owns_ne h.rv h.ty (by decide)
  obtain ⟨⟨k0, k1, k2, k3, k4, k5, k6, k7⟩, kf, kT⟩ := h.mid hg hn
  have hmp := h.mp.kept hg (map_own h.mp h.rv)
  refine ⟨cell_far k0 (by decide), cell_far k1 (by decide), cell_far k2 (by decide), cell_far k3 (by decide), World.cell?_setCell_same _ _ _ k4, cell_far k5 (by decide), cell_far k6 (by decide), cell_far k7 (by decide), fun i => by rw [World.frozen?_setCell]; exact kf i, kT.set _ _, h.bE, h.bM, ?_, ?_, ?_⟩
  · exact hmp.setCell (a := ⟨E, 4, none⟩) (map_ty hmp kT) _
  · exact owns_setT (h.rm.kept hg (rows_apartT h.rm h.rv (by decide))) (p := ⟨E, 4, none⟩) kT (by decide) _
  · exact owns_setT hr (p := ⟨E, 4, none⟩) kT (by decide) _
end

end Go.Proofs.Ytigkgfdnnfmmmaa
