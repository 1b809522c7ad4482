/- PLAIN PART: a marking as the key of a map: its literal is its thirty bytes; the numbers of marks as a map.
   WALKS: markIntS, markTransitionS, markNet, heldIntS: marks are written into ints alone. -/
import Derived.Test.YtigkgfdnnfmmmaaVExa
import Derived.Test.YtigkgfdnnfmmmaaVArr
import Derived.Test.YtigkgfdnnfmmmaaVArrb
import Derived.DeepKeys4
import Derived.MapViews
import Derived.Maps.OwnSet
import Derived.Maps.Views
import Derived.WalkArith
import Derived.Test.YtigkgfdnnfmmmaaVOwn
namespace Go.Proofs.Ytigkgfdnnfmmmaa
open Go.RowKit Go.Maps

theorem Try.laidEx : laidOutB Try.prog = true := by kernel_rfl
theorem Try.rowMk : (111 : TypeId) < Try.prog.types.size := of_decide_eq_true (by kernel_rfl)
theorem law_mk : Keyed Try.prog 111 := Keyed.of_law (deep_law_laid Try.laidEx (m := 2) (by omega) Try.rowMk (by kernel_rfl) (by rw [Try.underlying111]))
theorem Try.cellsMk : Try.prog.cellsOf 111 = 30 := by kernel_rfl
theorem Try.cellsU8 : Try.prog.cellsOf 5 = 1 := by kernel_rfl
theorem Try.deepMk : Try.prog.keyType 111 = true := by kernel_rfl
theorem many_of {n k : Nat} (h : k < n) (hk : 1 ≤ k) : ∃ m, n = m + 2 := ⟨n - 2, by omega⟩
theorem Try.manyTypes : ∃ m, Try.prog.types.size = m + 2 := by
  have h := Try.rowMk
  generalize Try.prog.types.size = q at h ⊢
  exact many_of h (by omega)

theorem mapM_range {α : Type} (g : Nat → α) (f : Nat → Option α) : ∀ (l : List Nat), (∀ i ∈ l, f i = some (g i)) → l.mapM f = some (l.map g)
  | [], _ => rfl
  | a :: l, h => by
    rw [List.mapM_cons, h a (List.mem_cons_self), mapM_range g f l (fun i hi => h i (List.mem_cons_of_mem _ hi))]
    rfl
theorem flatten_singles {α : Type} (g : Nat → α) : ∀ l : List Nat, (l.map (fun i => [g i])).flatten = l.map g
  | [] => rfl
  | a :: l => by simp [flatten_singles g l]
theorem keyByte (x : UInt8) : Lit.keyBytes (.int .u8 (x.toNat : Int)) = [x] := by
  have hx : x.toNat < 256 := x.toNat_lt
  have h1 : ((x.toNat : Int) % 2 ^ IntKind.u8.bits).toNat = x.toNat := by
    show ((x.toNat : Int) % 2 ^ 8).toNat = x.toNat
    omega
  show bytesBE 1 ((x.toNat : Int) % 2 ^ IntKind.u8.bits).toNat = [x]
  rw [h1]
  simp only [bytesBE, bytesLE, List.reverse_cons, List.reverse_nil, List.nil_append]
  rw [Nat.mod_eq_of_lt hx]
  simp
theorem keyBytes_arr (xs : List UInt8) : keyBytes (xs.map fun x => Lit.int .u8 (x.toNat : Int)) = xs := by
  unfold keyBytes
  induction xs with
  | nil => rfl
  | cons x xs ih => rw [List.map_cons, List.flatMap_cons, ih, keyByte]; rfl
theorem wf_u8' (x : UInt8) : (Lit.int .u8 (x.toNat : Int)).wf = true := by
  have hx : x.toNat < 256 := x.toNat_lt
  exact WalkArith.wf_u8 (by omega)

theorem keyOf_arr (xs : List UInt8) (hx : xs.length = 30) : keyOf Try.prog 111 (.agg (arr xs).toArray) = some (.string xs) := by
  obtain ⟨m, hm⟩ := Try.manyTypes
  unfold keyOf
  simp only [Try.underlying111]
  have hl : (arr xs).toArray.size = 30 := by simp [arr, hx]
  rw [if_pos (by simp [Try.deepMk, Value.formed, Try.underlying111, Try.cellsMk, hl]), hm]
  unfold Program.keyLits
  simp only [Try.underlying111, Value.cells]
  rw [if_pos (by rw [Try.cellsMk]; simp [arr, hx])]
  rw [mapM_range (fun i => [Lit.int .u8 ((xs.getD i 0).toNat : Int)]) _ _ (fun i hi => ?_)]
  · simp only [Option.map_some]
    rw [flatten_singles]
    have : (List.range 30).map (fun i => Lit.int .u8 ((xs.getD i 0).toNat : Int)) = xs.map fun x => Lit.int .u8 (x.toNat : Int) := by
      apply List.ext_getElem
      · simp [hx]
      · intro i h1 h2
        simp at h1
        simp [List.getD, List.getElem?_eq_getElem (show i < xs.length by omega)]
    rw [this, keyBytes_arr]
  · have hi30 : i < 30 := by simpa using hi
    have hd : ((arr xs).drop i).take 1 = [Value.int .u8 ((xs.getD i 0).toNat : Int)] := by
      have hil : i < (arr xs).length := by rw [arr_length]; omega
      rw [List.drop_eq_getElem_cons hil]
      have := arr_get (xs := xs) (q := i) (by omega)
      rw [List.getElem?_eq_getElem hil] at this
      injection this with this
      rw [this]; rfl
    rw [Try.cellsU8, Nat.mul_one]
    unfold Program.keyLits
    simp only [Try.underlying5, List.toList_toArray, hd]
    simp [wf_u8']

/-- the literal of a mark's thirty bytes -/
def keyP (m : ByteArray) : Lit := .string (pad (bytes m))
theorem keyP_key (m : ByteArray) : WideAt.IsKeyLit (keyP m) := trivial
theorem bytes_inj {a b : ByteArray} (h : bytes a = bytes b) : a = b := by rw [← bstr_bytes a, ← bstr_bytes b, h]
theorem keyP_ne {a b : ByteArray} (hs : a.size = b.size) (h : a ≠ b) : keyP a ≠ keyP b := fun e => h (by
  unfold keyP at e
  injection e with e
  apply bytes_inj
  have := congrArg (List.take a.size) e
  unfold pad at this
  rw [List.take_append_of_le_length (by rw [bytes_length]; omega), List.take_append_of_le_length (by rw [bytes_length]; omega)] at this
  rw [List.take_of_length_le (by rw [bytes_length]; omega), List.take_of_length_le (by rw [bytes_length]; omega)] at this
  exact this)

def numTo {H : Type} (ms : List ByteArray) : Nat → DataW H
  | 0 => .map []
  | k + 1 => (numTo ms k).put (keyP (stN ms k)) (.lit (.int .i64 (k : Int)))
theorem numTo_map {H : Type} (ms : List ByteArray) : ∀ k, IsMap (numTo (H := H) ms k)
  | 0 => isMap_empty
  | k + 1 => (numTo_map ms k).put _ _
theorem numTo_app {H : Type} (ms : List ByteArray) (m : ByteArray) : ∀ k, k ≤ ms.length → numTo (H := H) (ms ++ [m]) k = numTo ms k
  | 0, _ => rfl
  | k + 1, h => by rw [numTo, numTo, numTo_app ms m k (by omega), stN_append_left (by omega)]
def numSet {H : Type} (ms : List ByteArray) : DataW H := numTo ms ms.length
theorem numSet_app {H : Type} (ms : List ByteArray) (m : ByteArray) : numSet (H := H) (ms ++ [m]) = (numSet ms).put (keyP m) (.lit (.int .i64 (ms.length : Int))) := by
  unfold numSet
  rw [List.length_append, List.length_singleton, numTo, numTo_app _ _ _ (Nat.le_refl _), stN_append_last]
theorem numTo_has {H : Type} {ms : List ByteArray} {m : ByteArray} (hz : ∀ j, j < ms.length → (stN ms j).size = m.size) : ∀ k, k ≤ ms.length → (∀ j, j < k → stN ms j ≠ m) → has (numTo (H := H) ms k) (keyP m) = false
  | 0, _, _ => rfl
  | k + 1, hk, h => by
    rw [numTo, has_put_other (keyP_ne (hz k hk).symm (fun e => h k (by omega) e.symm))]
    exact numTo_has hz k (by omega) (fun j hj => h j (by omega))
theorem numTo_at {H : Type} {ms : List ByteArray} {m : ByteArray} (hz : ∀ j, j < ms.length → (stN ms j).size = m.size) (hd : ∀ a b, a < b → b < ms.length → stN ms a ≠ stN ms b) {q : Nat} (hq : stN ms q = m) : ∀ k, k ≤ ms.length → q < k → has (numTo (H := H) ms k) (keyP m) = true ∧ ∀ z, (numTo (H := H) ms k).atKey (keyP m) z = .lit (.int .i64 (q : Int))
  | 0, _, h => absurd h (Nat.not_lt_zero _)
  | k + 1, hk, h => by
    rw [numTo]
    by_cases e : q = k
    · subst e
      rw [hq]
      exact ⟨has_put_same (numTo_map ms _) (keyP_key m) _, fun z => atKey_put_same (numTo_map ms _) (keyP_key m) _ _⟩
    · have hne : keyP m ≠ keyP (stN ms k) := keyP_ne (hz k hk).symm (fun e2 => hd q k (by omega) hk (by rw [hq, e2]))
      rw [has_put_other hne]
      obtain ⟨h1, h2⟩ := numTo_at (H := H) hz hd hq k (by omega) (by omega)
      exact ⟨h1, fun z => by rw [atKey_put_other hne]; exact h2 z⟩
theorem numSet_has {H : Type} {ms : List ByteArray} {m : ByteArray} (hz : ∀ j, j < ms.length → (stN ms j).size = m.size) (hd : ∀ a b, a < b → b < ms.length → stN ms a ≠ stN ms b) : has (numSet (H := H) ms) (keyP m) = decide (findN ms m < ms.length) := by
  by_cases h : findN ms m < ms.length
  · rw [decide_eq_true h]
    exact (numTo_at (H := H) hz hd (findN_old h) _ (Nat.le_refl _) h).1
  · rw [decide_eq_false h]
    exact numTo_has hz _ (Nat.le_refl _) (findN_new h).2
theorem numSet_at {H : Type} {ms : List ByteArray} {m : ByteArray} (hz : ∀ j, j < ms.length → (stN ms j).size = m.size) (hd : ∀ a b, a < b → b < ms.length → stN ms a ≠ stN ms b) (h : findN ms m < ms.length) (z : DataW H) : (numSet (H := H) ms).atKey (keyP m) z = .lit (.int .i64 (findN ms m : Int)) :=
  (numTo_at (H := H) hz hd (findN_old h) _ (Nat.le_refl _) h).2 z

end Go.Proofs.Ytigkgfdnnfmmmaa

namespace Go.Proofs.Ytigkgfdnnfmmmaa
open Go.RowKit

/-- only ints in blocks from lo on, before hi, have changed, to ints -/
structure Marks (lo hi : Nat) (w w' : World) : Prop where
  os : w'.os = w.os
  tape : w'.tape = w.tape
  output : w'.output = w.output
  size : w'.heap.size = w.heap.size
  block : ∀ b, (b < lo ∨ hi ≤ b) → w'.heap[b]? = w.heap[b]?
  slice : ∀ a ao n c, w.cell? a = some (.slice ao n c) → w'.cell? a = some (.slice ao n c)
  int : ∀ a z, w.cell? a = some (.int .i64 z) → ∃ z', w'.cell? a = some (.int .i64 z')
  frozen : ∀ a, w'.frozen? a = w.frozen? a

theorem Marks.refl (lo hi : Nat) (w : World) : Marks lo hi w w := ⟨rfl, rfl, rfl, rfl, fun _ _ => rfl, fun _ _ _ _ h => h, fun _ z h => ⟨z, h⟩, fun _ => rfl⟩
theorem Marks.trans {lo hi : Nat} {a b c : World} (h : Marks lo hi a b) (k : Marks lo hi b c) : Marks lo hi a c :=
  ⟨k.os.trans h.os, k.tape.trans h.tape, k.output.trans h.output, k.size.trans h.size, fun x hx => (k.block x hx).trans (h.block x hx), fun x ao n cp hx => k.slice x ao n cp (h.slice x ao n cp hx),
    fun x z hx => by obtain ⟨z', hz⟩ := h.int x z hx; exact k.int x z' hz, fun x => (k.frozen x).trans (h.frozen x)⟩
theorem Marks.wide {lo hi lo' hi' : Nat} {w w' : World} (h : Marks lo hi w w') (h1 : lo' ≤ lo) (h2 : hi ≤ hi') : Marks lo' hi' w w' :=
  ⟨h.os, h.tape, h.output, h.size, fun b hb => h.block b (by omega), h.slice, h.int, h.frozen⟩
theorem Marks.set {lo hi : Nat} {a w : World} (h : Marks lo hi a w) {p : Addr} {z : Int} (hp : w.cell? p = some (.int .i64 z)) (h1 : lo ≤ p.block) (h2 : p.block < hi) (u : Int) : Marks lo hi a (w.setCell p (.int .i64 u)) := by
  refine h.trans ⟨rfl, rfl, rfl, by simp [World.setCell], fun b hb => Below.heap_setCell _ _ _ _ (by omega), fun x ao n cp hx => ?_, fun x y hx => ?_, fun x => World.frozen?_setCell _ _ _ _⟩
  · have hne : p ≠ x := fun e => by subst e; rw [hp] at hx; cases hx
    rw [World.cell?_setCell_other _ _ _ _ hne]; exact hx
  · by_cases e : p = x
    · subst e; exact ⟨u, World.cell?_setCell_same _ _ _ hx⟩
    · rw [World.cell?_setCell_other _ _ _ _ e]; exact ⟨y, hx⟩

theorem Marks.below {lo hi B : Nat} {a w w' : World} (h : Marks lo hi w w') (hb : Below B a w) (hB : B ≤ lo) : Below B a w' :=
  hb.trans ⟨h.os, h.tape, h.output, by rw [h.size]; exact Nat.le_refl _, fun k hk => h.block k (Or.inl (by omega))⟩

/-- a slice of so many ints, which may be written, in a block from lo on, before hi -/
def BoxAt (lo hi : Nat) (w : World) (v : Value) (len : Nat) : Prop :=
  ∃ (ao : Option Addr) (cap : Nat), v = .slice ao len cap ∧
    (len = 0 ∨ ∃ b off, ao = some ⟨b, off, none⟩ ∧ lo ≤ b ∧ b < hi ∧ ∀ i, i < len → (∃ z, w.cell? ⟨b, off + i, none⟩ = some (.int .i64 z)) ∧ w.frozen? ⟨b, off + i, none⟩ = false)
theorem BoxAt.marks {lo hi lo' hi' : Nat} {w w' : World} {v : Value} {len : Nat} (h : BoxAt lo hi w v len) (hm : Marks lo' hi' w w') : BoxAt lo hi w' v len := by
  obtain ⟨ao, cap, hv, hz⟩ := h
  refine ⟨ao, cap, hv, ?_⟩
  rcases hz with hz | ⟨b, off, ha, h1, h2, hc⟩
  · exact Or.inl hz
  · refine Or.inr ⟨b, off, ha, h1, h2, fun i hi => ?_⟩
    obtain ⟨⟨z, hz⟩, hf⟩ := hc i hi
    exact ⟨hm.int _ _ hz, (hm.frozen _).trans hf⟩
theorem IntsOw.box {lo : Nat} {w : World} {v : Value} {zs : List Int} (h : IntsOw lo w v zs) : BoxAt lo w.heap.size w v zs.length := by
  obtain ⟨ao, cap, hv, hc, hz⟩ := h
  refine ⟨ao, cap, hv, ?_⟩
  rcases hz with rfl | ⟨b, off, ha, hlo, hcell⟩
  · exact Or.inl rfl
  · by_cases h0 : zs.length = 0
    · exact Or.inl h0
    · refine Or.inr ⟨b, off, ha, hlo, ?_, fun i hi => ⟨⟨_, (hcell i hi).1⟩, (hcell i hi).2⟩⟩
      have := cell_old (hcell 0 (by omega)).1
      simpa using this

/-- k, k + 1, .. -/
def upFrom (k : Int) (len : Nat) : List Int := (List.range len).map fun (i : Nat) => k + (i : Int)
theorem upFrom_length (k : Int) (len : Nat) : (upFrom k len).length = len := by simp [upFrom]
theorem upFrom_get {k : Int} {len i : Nat} (h : i < len) : (upFrom k len).getD i 0 = k + (i : Int) := by simp [upFrom, List.getD, h]

/-- the marks are written: the slice holds k, k + 1, .. -/
def RetMark (lo hi : Nat) (w : World) (v : Value) (k : Int) (len : Nat) (e : Ending) (w' : World) : Prop :=
  e = .returned (.int .i64 (k + len)) ∧ Marks lo hi w w' ∧ (∀ b off c, v = .slice (some ⟨b, off, none⟩) len c → ∀ i, i < len → w'.cell? ⟨b, off + i, none⟩ = some (.int .i64 (k + i)))

set_option maxHeartbeats 1000000 in
theorem markIntS_any (v : Value) (len : Nat) (k : Int) (w : World) (lo hi : Nat) (hv : BoxAt lo hi w v len) (hn : len ≤ 1048576) (h0 : 0 ≤ k) (h1 : k ≤ 1099511627776000) :
    Calls Try.prog 22 #[v, .int .i64 k] w (RetMark lo hi w v k len) := by
  have hv0 := hv
  obtain ⟨ao, cap, rfl, hz⟩ := hv
  have HB := Lib.hid hv0; clear hv0
  have HF := Lib.hid hz; clear hz
  go_enter Try.func22, Try.ntmps22
  go_wp2_with fail
  go_loopw [1, 5] (fun kv i wr => ∃ j : Nat, j ≤ len ∧ i = .int .i64 j ∧ kv = .int .i64 (k + j) ∧ Marks lo hi w wr ∧ (∀ b off, ao = some ⟨b, off, none⟩ → ∀ q, q < j → wr.cell? ⟨b, off + q, none⟩ = some (.int .i64 (k + q)))) (fun _ i _ => len - (intOf i).toNat)
  case atStart => exact ⟨0, Nat.zero_le _, rfl, by simp, Marks.refl _ _ _, fun _ _ _ q hq => absurd hq (Nat.not_lt_zero _)⟩
  case round =>
    obtain ⟨j, hj, rfl, rfl, hm, hex⟩ := hrel
    by_cases hlt : j < len
    · rcases HF.out with h | ⟨b, off, rfl, hlo, hhi, hcell⟩
      · omega
      obtain ⟨⟨z, hz0⟩, hf0⟩ := hcell j hlt
      obtain ⟨z1, c1⟩ := hm.int _ _ hz0
      have f1 := (hm.frozen _).trans hf0
      have hm2 := hm.set c1 hlo hhi (k + j)
      have hex2 : Hid (∀ b' off', some (⟨b, off, none⟩ : Addr) = some ⟨b', off', none⟩ → ∀ q, q < j + 1 → (wr.setCell ⟨b, off + j, none⟩ (.int .i64 (k + j))).cell? ⟨b', off' + q, none⟩ = some (.int .i64 (k + q))) := by
        intro b' off' he q hq
        obtain ⟨rfl, rfl⟩ : b = b' ∧ off = off' := by simpa using he
        by_cases e : q = j
        · subst e; exact World.cell?_setCell_same _ _ _ c1
        · rw [World.cell?_setCell_other _ _ _ _ (by intro h; injection h with h1 h2 h3; omega)]
          exact hex b off rfl q (by omega)
      have HM2 := Lib.hid hm2
      clear hm2 hex hcell hz0 hf0 hm
      go_wp2_with fail
      go_roundw
      case rel => exact ⟨j + 1, by omega, by go_num, by simp [Int.add_assoc], HM2.out, hex2.out⟩
      case measure => simp [intOf]; omega
    · have hjj : j = len := by omega
      subst hjj
      have HE := Lib.hid hex; clear hex
      go_wp2_with fail
      go_ret
      exact ⟨rfl, hm, fun b off c he q hq => HE.out b off (by injection he with h1 h2 h3) q hq⟩

set_option maxHeartbeats 1000000 in
theorem heldIntS_any (v : Value) (len : Nat) (k : Int) (w : World) (lo : Nat) (hv : IntsAt lo w v (upFrom k len)) (hn : len ≤ 1048576) (h0 : 0 ≤ k) (h1 : k ≤ 1099511627776000) :
    Calls Try.prog 23 #[v, .int .i64 k] w (RetV w (.int .i64 (k + len))) := by
  obtain ⟨ao, cap, rfl, hc, hz⟩ := hv
  rw [upFrom_length] at hz ⊢
  have HF := Lib.hid hz; clear hz hc
  go_enter Try.func23, Try.ntmps23
  go_wp2_with fail
  go_loopw [1, 5] (fun kv i wr => ∃ j : Nat, j ≤ len ∧ i = .int .i64 j ∧ kv = .int .i64 (k + j) ∧ Below w.heap.size w wr) (fun _ i _ => len - (intOf i).toNat)
  case atStart => exact ⟨0, Nat.zero_le _, rfl, by simp, Below.refl _ _⟩
  case round =>
    obtain ⟨j, hj, rfl, rfl, hb1⟩ := hrel
    by_cases hlt : j < len
    · rcases HF.out with h | ⟨b, off, rfl, hlo, hcell⟩
      · have := congrArg List.length h
        rw [upFrom_length] at this
        simp at this; omega
      have c1 := Carries.of lo hb1 _ _ hlo (hcell j hlt)
      rw [upFrom_get hlt] at c1
      have hne : (k + (j : Int) != k + (j : Int)) = false := by simp
      clear hcell
      go_wp2_with fail
      go_roundw
      case rel => exact ⟨j + 1, by omega, by go_num, by simp [Int.add_assoc], by first | exact hb1 | exact below_drewN hb1 _⟩
      case measure => simp [intOf]; omega
    · have hjj : j = len := by omega
      subst hjj
      go_wp2_with fail
      go_ret
      exact ⟨rfl, hb1⟩

theorem BoxAt.same {lo hi : Nat} {w w' : World} {v : Value} {len : Nat} (h : BoxAt lo hi w v len) (hs : Same lo w w') : BoxAt lo hi w' v len := by
  obtain ⟨ao, cap, hv, hz⟩ := h
  refine ⟨ao, cap, hv, ?_⟩
  rcases hz with hz | ⟨b, off, ha, h1, h2, hc⟩
  · exact Or.inl hz
  · refine Or.inr ⟨b, off, ha, h1, h2, fun i hi => ?_⟩
    obtain ⟨⟨z, hz⟩, hf⟩ := hc i hi
    have he := hs.2 b h1 (by have := cell_old hz; simpa using this)
    exact ⟨⟨z, (World.cell?_of_block (w := w) (w' := w') (a := ⟨b, off + i, none⟩) he).trans hz⟩, (World.frozen?_of_block (w := w) (w' := w') (a := ⟨b, off + i, none⟩) he).trans hf⟩

/-- how many ints the first k of the transitions hold -/
def totTo (ts : List Tr) : Nat → Nat
  | 0 => 0
  | k + 1 => totTo ts k + (ts.getD k ([], [])).1.length + (ts.getD k ([], [])).2.length
theorem totTo_le {ts : List Tr} (hs : SmallTrs ts) : ∀ k, k ≤ ts.length → totTo ts k ≤ k * 2097152
  | 0, _ => Nat.zero_le _
  | k + 1, hk => by
    have h1 := totTo_le hs k (by omega)
    have h2 := hs.2 k (by omega)
    unfold totTo
    omega

/-- the marks are written into a net's lists -/
def RetMarkN (lo hi : Nat) (w : World) (k : Int) (e : Ending) (w' : World) : Prop := e = .returned (.int .i64 k) ∧ Marks lo hi w w'

set_option maxHeartbeats 1000000 in
theorem markTransitionS_any (v : Value) (ts : List Tr) (k : Int) (w0 w : World) (lo : Nat) (hv : TrsOw lo w0 v ts) (hsm : Same lo w0 w) (hs : SmallTrs ts) (h0 : 0 ≤ k) (h1 : k ≤ 1048577) :
    Calls Try.prog 68 #[v, .int .i64 k] w (RetMarkN lo w0.heap.size w (k + (totTo ts ts.length : Nat))) := by
  obtain ⟨ao, cap, rfl, hc, hz⟩ := hv
  have HF := Lib.hid hz; clear hz
  have HT := Lib.hid (totTo_le hs)
  obtain ⟨hn, hsl⟩ := hs
  have HS := Lib.hid hsl; clear hsl
  have HM := Lib.hid hsm; clear hsm
  obtain ⟨T, hT⟩ : ∃ T, T = totTo ts := ⟨_, rfl⟩
  have hTs : ∀ j, T (j + 1) = T j + (ts.getD j ([], [])).1.length + (ts.getD j ([], [])).2.length := fun j => by rw [hT]; rfl
  have hT0 : T 0 = 0 := by rw [hT]; rfl
  rw [← hT] at HT ⊢
  have HTS := Lib.hid hTs; clear hTs hT
  go_enter Try.func68, Try.ntmps68
  go_wp2_with fail
  go_loopw [1, 5] (fun kv i wr => ∃ j : Nat, j ≤ ts.length ∧ i = .int .i64 j ∧ kv = .int .i64 (k + (T j : Nat)) ∧ Marks lo w0.heap.size w wr) (fun _ i _ => ts.length - (intOf i).toNat)
  case atStart => exact ⟨0, Nat.zero_le _, rfl, by simp [hT0], Marks.refl _ _ _⟩
  case round =>
    obtain ⟨j, hj, rfl, rfl, hm⟩ := hrel
    by_cases hlt : j < ts.length
    · rcases HF.out with rfl | ⟨b, off, rfl, hlo, hcell⟩
      · simp at hlt
      obtain ⟨x0, x1, c0, c1, hx0, hx1⟩ := hcell j hlt
      have s1 := HS.out j hlt
      have tj := HT.out j hj
      have tj1 := HTS.out j
      obtain ⟨X, hX⟩ : ∃ X, X = ts.getD j ([], []) := ⟨_, rfl⟩
      rw [← hX] at hx0 hx1 s1 tj1
      obtain ⟨s1, s2⟩ := s1
      have B0 := Lib.hid ((hx0.box.same HM.out).marks hm)
      have B1 := Lib.hid ((hx1.box.same HM.out).marks hm)
      have he := HM.out.2 b hlo (by have := cell_old c0; simpa using this)
      obtain ⟨p0, q0, rfl, _, _⟩ := hx0
      obtain ⟨p1, q1, rfl, _, _⟩ := hx1
      have d0 := hm.slice _ _ _ _ ((World.cell?_of_block (w := w0) (w' := w) (a := ⟨b, off + j * 2, none⟩) he).trans c0)
      have d1 := hm.slice _ _ _ _ ((World.cell?_of_block (w := w0) (w' := w) (a := ⟨b, off + j * 2 + 1, none⟩) he).trans c1)
      clear hcell c0 c1 he hX
      have MM := Lib.hid hm; clear hm
      go_wp2_with fail
      refine (markIntS_any _ X.1.length _ _ lo w0.heap.size B0.out s1 (by omega) (by omega)).mono ?_
      rintro e w1 ⟨rfl, hm1, _⟩
      have e1 := hm1.slice _ _ _ _ d1
      have B2 := Lib.hid (B1.out.marks hm1)
      have MM1 := Lib.hid (MM.out.trans hm1)
      clear hm1 d0 d1
      go_wp2_with fail
      refine (markIntS_any _ X.2.length _ _ lo w0.heap.size B2.out s2 (by omega) (by omega)).mono ?_
      rintro e w2 ⟨rfl, hm2, _⟩
      have MM2 := Lib.hid (MM1.out.trans hm2)
      clear hm2 e1
      go_wp2_with fail
      go_roundw
      case rel => exact ⟨j + 1, by omega, by go_num, by simp [tj1, Int.add_assoc], MM2.out⟩
      case measure => simp [intOf]; omega
    · have hjj : j = ts.length := by omega
      subst hjj
      go_wp2_with fail
      go_ret
      exact ⟨rfl, hm⟩

set_option maxHeartbeats 400000 in
theorem markNet_any (v : Value) (n : NetD) (k : Int) (w0 w : World) (lo : Nat) (hv : NetOw lo w0 v n) (hsm : Same lo w0 w) (hs : SmallTrs n.ts) (h0 : 0 ≤ k) (h1 : k ≤ 1048577) :
    Calls Try.prog 32 #[v, .int .i64 k] w (fun e w' => ∃ wa, e = .returned (.int .i64 (k + (totTo n.ts n.ts.length : Nat))) ∧ Below w.heap.size w wa ∧ Marks lo w0.heap.size wa w') := by
  obtain ⟨hp0, hp1, u, rfl, ht⟩ := hv
  have HT := Lib.hid ht
  obtain ⟨ao, cap, rfl, _, _⟩ := ht
  go_enter Try.func32, Try.ntmps32
  go_wp2_with fail
  refine (markTransitionS_any _ n.ts k w0 _ lo HT.out (hsm.alloc _) hs h0 h1).mono ?_
  rintro e w1 ⟨rfl, hm⟩
  go_wp2_with fail
  go_ret
  exact ⟨_, rfl, (Below.refl _ _).alloc (Nat.le_refl _) _, hm⟩

end Go.Proofs.Ytigkgfdnnfmmmaa
