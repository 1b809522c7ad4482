/- PLAIN PART: a marking as the key of a map: its literal is its thirty bytes; the numbers of marks as a map. -/
import Derived.Test.YtigkgfdnnfmmmaaVExa
import Derived.Test.YtigkgfdnnfmmmaaVArr
import Derived.Test.YtigkgfdnnfmmmaaVArrb
import Derived.DeepKeys4
import Derived.MapViews
import Derived.Maps.OwnSet
import Derived.Maps.Views
import Derived.WalkArith
namespace Go.Proofs.Ytigkgfdnnfmmmaa
open Go.RowKit Go.Maps

theorem Try.laidEx : laidOutB Try.prog = true := by kernel_rfl
theorem Try.rowMk : (111 : TypeId) < Try.prog.types.size := of_decide_eq_true (by kernel_rfl)
theorem law_mk : Keyed Try.prog 111 := Keyed.of_law (deep_law_laid Try.laidEx (m := 2) (by omega) Try.rowMk (by kernel_rfl) (by rw [Try.underlying111]))
theorem Try.cellsMk : Try.prog.cellsOf 111 = 30 := by kernel_rfl
theorem Try.cellsU8 : Try.prog.cellsOf 5 = 1 := by kernel_rfl
theorem Try.deepMk : Try.prog.keyType 111 = true := by kernel_rfl
theorem many_of {n k : Nat} (h : k < n) (hk : 1 ≤ k) : ∃ m, n = m + 2 := ⟨n - 2, by omega⟩
theorem Try.manyTypes : ∃ m, Try.prog.types.size = m + 2 := by
  have h := Try.rowMk
  generalize Try.prog.types.size = q at h ⊢
  exact many_of h (by omega)

theorem mapM_range {α : Type} (g : Nat → α) (f : Nat → Option α) : ∀ (l : List Nat), (∀ i ∈ l, f i = some (g i)) → l.mapM f = some (l.map g)
  | [], _ => rfl
  | a :: l, h => by
    rw [List.mapM_cons, h a (List.mem_cons_self), mapM_range g f l (fun i hi => h i (List.mem_cons_of_mem _ hi))]
    rfl
theorem flatten_singles {α : Type} (g : Nat → α) : ∀ l : List Nat, (l.map (fun i => [g i])).flatten = l.map g
  | [] => rfl
  | a :: l => by simp [flatten_singles g l]
theorem keyByte (x : UInt8) : Lit.keyBytes (.int .u8 (x.toNat : Int)) = [x] := by
  have hx : x.toNat < 256 := x.toNat_lt
  have h1 : ((x.toNat : Int) % 2 ^ IntKind.u8.bits).toNat = x.toNat := by
    show ((x.toNat : Int) % 2 ^ 8).toNat = x.toNat
    omega
  show bytesBE 1 ((x.toNat : Int) % 2 ^ IntKind.u8.bits).toNat = [x]
  rw [h1]
  simp only [bytesBE, bytesLE, List.reverse_cons, List.reverse_nil, List.nil_append]
  rw [Nat.mod_eq_of_lt hx]
  simp
theorem keyBytes_arr (xs : List UInt8) : keyBytes (xs.map fun x => Lit.int .u8 (x.toNat : Int)) = xs := by
  unfold keyBytes
  induction xs with
  | nil => rfl
  | cons x xs ih => rw [List.map_cons, List.flatMap_cons, ih, keyByte]; rfl
theorem wf_u8' (x : UInt8) : (Lit.int .u8 (x.toNat : Int)).wf = true := by
  have hx : x.toNat < 256 := x.toNat_lt
  exact WalkArith.wf_u8 (by omega)

theorem keyOf_arr (xs : List UInt8) (hx : xs.length = 30) : keyOf Try.prog 111 (.agg (arr xs).toArray) = some (.string xs) := by
  obtain ⟨m, hm⟩ := Try.manyTypes
  unfold keyOf
  simp only [Try.underlying111]
  have hl : (arr xs).toArray.size = 30 := by simp [arr, hx]
  rw [if_pos (by simp [Try.deepMk, Value.formed, Try.underlying111, Try.cellsMk, hl]), hm]
  unfold Program.keyLits
  simp only [Try.underlying111, Value.cells]
  rw [if_pos (by rw [Try.cellsMk]; simp [arr, hx])]
  rw [mapM_range (fun i => [Lit.int .u8 ((xs.getD i 0).toNat : Int)]) _ _ (fun i hi => ?_)]
  · simp only [Option.map_some]
    rw [flatten_singles]
    have : (List.range 30).map (fun i => Lit.int .u8 ((xs.getD i 0).toNat : Int)) = xs.map fun x => Lit.int .u8 (x.toNat : Int) := by
      apply List.ext_getElem
      · simp [hx]
      · intro i h1 h2
        simp at h1
        simp [List.getD, List.getElem?_eq_getElem (show i < xs.length by omega)]
    rw [this, keyBytes_arr]
  · have hi30 : i < 30 := by simpa using hi
    have hd : ((arr xs).drop i).take 1 = [Value.int .u8 ((xs.getD i 0).toNat : Int)] := by
      have hil : i < (arr xs).length := by rw [arr_length]; omega
      rw [List.drop_eq_getElem_cons hil]
      have := arr_get (xs := xs) (q := i) (by omega)
      rw [List.getElem?_eq_getElem hil] at this
      injection this with this
      rw [this]; rfl
    rw [Try.cellsU8, Nat.mul_one]
    unfold Program.keyLits
    simp only [Try.underlying5, List.toList_toArray, hd]
    simp [wf_u8']

/-- the literal of a mark's thirty bytes -/
def keyP (m : ByteArray) : Lit := .string (pad (bytes m))
theorem keyP_key (m : ByteArray) : WideAt.IsKeyLit (keyP m) := trivial
theorem bytes_inj {a b : ByteArray} (h : bytes a = bytes b) : a = b := by rw [← bstr_bytes a, ← bstr_bytes b, h]
theorem keyP_ne {a b : ByteArray} (hs : a.size = b.size) (h : a ≠ b) : keyP a ≠ keyP b := fun e => h (by
  unfold keyP at e
  injection e with e
  apply bytes_inj
  have := congrArg (List.take a.size) e
  unfold pad at this
  rw [List.take_append_of_le_length (by rw [bytes_length]; omega), List.take_append_of_le_length (by rw [bytes_length]; omega)] at this
  rw [List.take_of_length_le (by rw [bytes_length]; omega), List.take_of_length_le (by rw [bytes_length]; omega)] at this
  exact this)

def numTo {H : Type} (ms : List ByteArray) : Nat → DataW H
  | 0 => .map []
  | k + 1 => (numTo ms k).put (keyP (stN ms k)) (.lit (.int .i64 (k : Int)))
theorem numTo_map {H : Type} (ms : List ByteArray) : ∀ k, IsMap (numTo (H := H) ms k)
  | 0 => isMap_empty
  | k + 1 => (numTo_map ms k).put _ _
theorem numTo_app {H : Type} (ms : List ByteArray) (m : ByteArray) : ∀ k, k ≤ ms.length → numTo (H := H) (ms ++ [m]) k = numTo ms k
  | 0, _ => rfl
  | k + 1, h => by rw [numTo, numTo, numTo_app ms m k (by omega), stN_append_left (by omega)]
def numSet {H : Type} (ms : List ByteArray) : DataW H := numTo ms ms.length
theorem numSet_app {H : Type} (ms : List ByteArray) (m : ByteArray) : numSet (H := H) (ms ++ [m]) = (numSet ms).put (keyP m) (.lit (.int .i64 (ms.length : Int))) := by
  unfold numSet
  rw [List.length_append, List.length_singleton, numTo, numTo_app _ _ _ (Nat.le_refl _), stN_append_last]
theorem numTo_has {H : Type} {ms : List ByteArray} {m : ByteArray} (hz : ∀ j, j < ms.length → (stN ms j).size = m.size) : ∀ k, k ≤ ms.length → (∀ j, j < k → stN ms j ≠ m) → has (numTo (H := H) ms k) (keyP m) = false
  | 0, _, _ => rfl
  | k + 1, hk, h => by
    rw [numTo, has_put_other (keyP_ne (hz k hk).symm (fun e => h k (by omega) e.symm))]
    exact numTo_has hz k (by omega) (fun j hj => h j (by omega))
theorem numTo_at {H : Type} {ms : List ByteArray} {m : ByteArray} (hz : ∀ j, j < ms.length → (stN ms j).size = m.size) (hd : ∀ a b, a < b → b < ms.length → stN ms a ≠ stN ms b) {q : Nat} (hq : stN ms q = m) : ∀ k, k ≤ ms.length → q < k → has (numTo (H := H) ms k) (keyP m) = true ∧ ∀ z, (numTo (H := H) ms k).atKey (keyP m) z = .lit (.int .i64 (q : Int))
  | 0, _, h => absurd h (Nat.not_lt_zero _)
  | k + 1, hk, h => by
    rw [numTo]
    by_cases e : q = k
    · subst e
      rw [hq]
      exact ⟨has_put_same (numTo_map ms _) (keyP_key m) _, fun z => atKey_put_same (numTo_map ms _) (keyP_key m) _ _⟩
    · have hne : keyP m ≠ keyP (stN ms k) := keyP_ne (hz k hk).symm (fun e2 => hd q k (by omega) hk (by rw [hq, e2]))
      rw [has_put_other hne]
      obtain ⟨h1, h2⟩ := numTo_at (H := H) hz hd hq k (by omega) (by omega)
      exact ⟨h1, fun z => by rw [atKey_put_other hne]; exact h2 z⟩
theorem numSet_has {H : Type} {ms : List ByteArray} {m : ByteArray} (hz : ∀ j, j < ms.length → (stN ms j).size = m.size) (hd : ∀ a b, a < b → b < ms.length → stN ms a ≠ stN ms b) : has (numSet (H := H) ms) (keyP m) = decide (findN ms m < ms.length) := by
  by_cases h : findN ms m < ms.length
  · rw [decide_eq_true h]
    exact (numTo_at (H := H) hz hd (findN_old h) _ (Nat.le_refl _) h).1
  · rw [decide_eq_false h]
    exact numTo_has hz _ (Nat.le_refl _) (findN_new h).2
theorem numSet_at {H : Type} {ms : List ByteArray} {m : ByteArray} (hz : ∀ j, j < ms.length → (stN ms j).size = m.size) (hd : ∀ a b, a < b → b < ms.length → stN ms a ≠ stN ms b) (h : findN ms m < ms.length) (z : DataW H) : (numSet (H := H) ms).atKey (keyP m) z = .lit (.int .i64 (findN ms m : Int)) :=
  (numTo_at (H := H) hz hd (findN_old h) _ (Nat.le_refl _) h).2 z

end Go.Proofs.Ytigkgfdnnfmmmaa
