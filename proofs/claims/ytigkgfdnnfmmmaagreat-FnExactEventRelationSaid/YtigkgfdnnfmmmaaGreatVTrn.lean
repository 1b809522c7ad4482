/- PLACES OF CONDITIONS: the program sorts them, the model puts each to its place once; the two tests are one, where the wanted list rises.
   WALK: hasTransition of the program. -/
import Derived.Test.YtigkgfdnnfmmmaaGreatVHpw
import Derived.Test.YtigkgfdnnfmmmaaGreatVHse
import Derived.Test.YtigkgfdnnfmmmaaGreatVNetc
namespace Go.Proofs.YtigkgfdnnfmmmaaGreat
open Go.RowKit

/-- a number is put to its place, once -/
def putL : List Int → Int → List Int
  | [], x => [x]
  | y :: l, x => if y < x then y :: putL l x else if y = x then y :: l else x :: y :: l
theorem mem_putL {x z : Int} : ∀ l : List Int, z ∈ putL l x ↔ z = x ∨ z ∈ l
  | [] => by simp [putL]
  | y :: l => by
    unfold putL
    by_cases h1 : y < x
    · rw [if_pos h1, List.mem_cons, mem_putL l, List.mem_cons]
      constructor
      · rintro (h | h | h)
        · exact Or.inr (Or.inl h)
        · exact Or.inl h
        · exact Or.inr (Or.inr h)
      · rintro (h | h | h)
        · exact Or.inr (Or.inl h)
        · exact Or.inl h
        · exact Or.inr (Or.inr h)
    · rw [if_neg h1]
      by_cases h2 : y = x
      · rw [if_pos h2, List.mem_cons]
        constructor
        · exact Or.inr
        · rintro (h | h)
          · exact Or.inl (by rw [h, h2])
          · exact h
      · rw [if_neg h2, List.mem_cons]
theorem putL_rise {x : Int} : ∀ l : List Int, l.Pairwise (· < ·) → (putL l x).Pairwise (· < ·)
  | [], _ => by simp [putL]
  | y :: l, h => by
    obtain ⟨ha, hp⟩ := List.pairwise_cons.1 h
    unfold putL
    by_cases h1 : y < x
    · rw [if_pos h1]
      refine List.pairwise_cons.2 ⟨fun z hz => ?_, putL_rise l hp⟩
      rcases (mem_putL l).1 hz with rfl | hz
      · exact h1
      · exact ha z hz
    · rw [if_neg h1]
      by_cases h2 : y = x
      · rw [if_pos h2]; exact h
      · rw [if_neg h2]
        refine List.pairwise_cons.2 ⟨fun z hz => ?_, h⟩
        rcases List.mem_cons.1 hz with rfl | hz
        · omega
        · have := ha z hz; omega
theorem putL_in {x : Int} : ∀ l : List Int, l.Pairwise (· < ·) → x ∈ l → putL l x = l
  | [], _, h => by cases h
  | y :: l, hp, h => by
    obtain ⟨ha, hp⟩ := List.pairwise_cons.1 hp
    unfold putL
    rcases List.mem_cons.1 h with rfl | h
    · rw [if_neg (Int.lt_irrefl x), if_pos rfl]
    · rw [if_pos (ha x h), putL_in l hp h]
theorem putL_len {x : Int} : ∀ l : List Int, (putL l x).length ≤ l.length + 1
  | [] => Nat.le_refl _
  | y :: l => by
    unfold putL
    by_cases h1 : y < x
    · rw [if_pos h1, List.length_cons, List.length_cons]
      have := putL_len (x := x) l
      omega
    · rw [if_neg h1]
      by_cases h2 : y = x
      · rw [if_pos h2]; exact Nat.le_succ _
      · rw [if_neg h2]; exact Nat.le_refl _
def puts (acc l : List Int) : List Int := l.foldl putL acc
theorem puts_rise : ∀ (l acc : List Int), acc.Pairwise (· < ·) → (puts acc l).Pairwise (· < ·)
  | [], _, h => h
  | x :: l, acc, h => puts_rise l (putL acc x) (putL_rise acc h)
theorem mem_puts {z : Int} : ∀ (l acc : List Int), z ∈ puts acc l ↔ z ∈ acc ∨ z ∈ l
  | [], acc => by simp [puts]
  | x :: l, acc => by
    show z ∈ puts (putL acc x) l ↔ _
    rw [mem_puts l, mem_putL, List.mem_cons]
    constructor
    · rintro ((h | h) | h)
      · exact Or.inr (Or.inl h)
      · exact Or.inl h
      · exact Or.inr (Or.inr h)
    · rintro (h | h | h)
      · exact Or.inl (Or.inr h)
      · exact Or.inl (Or.inl h)
      · exact Or.inr h
theorem puts_len : ∀ (l acc : List Int), (puts acc l).length ≤ acc.length + l.length
  | [], _ => Nat.le_refl _
  | x :: l, acc => by
    have h1 := puts_len l (putL acc x)
    have h2 := putL_len (x := x) acc
    show (puts (putL acc x) l).length ≤ _
    rw [List.length_cons]
    omega
/-- where none is lost, no number stands twice -/
theorem puts_nodup : ∀ (l acc : List Int), acc.Pairwise (· < ·) → (puts acc l).length = acc.length + l.length → l.Nodup ∧ ∀ x ∈ l, x ∉ acc
  | [], _, _, _ => ⟨List.nodup_nil, fun _ h => by cases h⟩
  | x :: l, acc, hp, h => by
    have h : (puts (putL acc x) l).length = acc.length + (l.length + 1) := h
    have hx : x ∉ acc := fun hx => by
      rw [putL_in acc hp hx] at h
      have := puts_len l acc
      omega
    have h1 := puts_len l (putL acc x)
    have h2 := putL_len (x := x) acc
    obtain ⟨hn, hm⟩ := puts_nodup l (putL acc x) (putL_rise acc hp) (by omega)
    refine ⟨List.nodup_cons.2 ⟨fun hxl => hm x hxl ((mem_putL acc).2 (Or.inl rfl)), hn⟩, fun y hy => ?_⟩
    rcases List.mem_cons.1 hy with rfl | hy
    · exact hx
    · exact fun ha => hm y hy ((mem_putL acc).2 (Or.inr ha))
theorem rise_ext : ∀ (a b : List Int), a.Pairwise (· < ·) → b.Pairwise (· < ·) → (∀ x, x ∈ a ↔ x ∈ b) → a = b
  | [], [], _, _, _ => rfl
  | [], y :: b, _, _, h => by have := (h y).2 (List.mem_cons_self ..); cases this
  | x :: a, [], _, _, h => by have := (h x).1 (List.mem_cons_self ..); cases this
  | x :: a, y :: b, ha, hb, h => by
    obtain ⟨ha1, ha2⟩ := List.pairwise_cons.1 ha
    obtain ⟨hb1, hb2⟩ := List.pairwise_cons.1 hb
    have e : x = y := by
      rcases List.mem_cons.1 ((h x).1 (List.mem_cons_self ..)) with e | e
      · exact e
      · rcases List.mem_cons.1 ((h y).2 (List.mem_cons_self ..)) with e2 | e2
        · exact e2.symm
        · have := hb1 x e
          have := ha1 y e2
          omega
    subst e
    congr 1
    refine rise_ext a b ha2 hb2 fun z => ?_
    have hz := h z
    rw [List.mem_cons, List.mem_cons] at hz
    constructor
    · intro hz1
      rcases hz.1 (Or.inr hz1) with e | e
      · subst e
        have := ha1 z hz1
        omega
      · exact e
    · intro hz1
      rcases hz.2 (Or.inr hz1) with e | e
      · subst e
        have := hb1 z hz1
        omega
      · exact e
theorem rise_nodup {a : List Int} (h : a.Pairwise (· < ·)) : a.Nodup := h.imp fun hlt e => by omega
/-- the places of some conditions, as the model has them -/
def plM (cs : List Cnd) (L : List Int) : List Int := puts [] (plL cs L)
theorem pl_same {cs : List Cnd} {L pre : List Int} (hp : pre.Pairwise (· < ·)) : plS cs L = pre ↔ L.length = pre.length ∧ plM cs L = pre := by
  have hperm : (plS cs L).Perm (plL cs L) := List.mergeSort_perm _ _
  have hsort : (plS cs L).Pairwise (fun x y => decide (x ≤ y) = true) := List.pairwise_mergeSort (fun a b c h1 h2 => by simp only [decide_eq_true_eq] at *; omega) (fun a b => by simp only [Bool.or_eq_true, decide_eq_true_eq]; omega) _
  have hr := puts_rise (plL cs L) [] List.Pairwise.nil
  have hm : ∀ x, x ∈ plM cs L ↔ x ∈ plL cs L := fun x => by unfold plM; rw [mem_puts]; simp
  constructor
  · intro h
    refine ⟨by rw [← h, plS_length], rise_ext _ _ hr hp fun x => ?_⟩
    show x ∈ plM cs L ↔ _
    rw [hm, ← h]
    exact hperm.mem_iff.symm
  · rintro ⟨hl, h⟩
    have hn : (plL cs L).Nodup := by
      refine (puts_nodup (plL cs L) [] List.Pairwise.nil ?_).1
      show (plM cs L).length = _
      rw [h, plL_length, hl]
      simp
    have hn2 : (plS cs L).Nodup := hperm.nodup_iff.2 hn
    have hs : (plS cs L).Pairwise (· < ·) := by
      refine (hsort.and hn2).imp fun ⟨h1, h2⟩ => ?_
      have := of_decide_eq_true h1
      omega
    rw [← h]
    refine rise_ext _ _ hs hr fun x => ?_
    show _ ↔ x ∈ plM cs L
    rw [hm]
    exact hperm.mem_iff

end Go.Proofs.YtigkgfdnnfmmmaaGreat

namespace Go.Proofs.YtigkgfdnnfmmmaaGreat
open Go.RowKit

set_option maxHeartbeats 400000 in
theorem isTransition_any (v : Value) (n : NetD) (t : Int) (w : World) (lo : Nat) (hv : NetAt lo w v n) (hsm : SmallTrs n.ts) :
    Calls Tryz.prog 64 #[v, .int .i64 t] w (RetB w (decide (0 ≤ t ∧ t < n.ts.length))) := by
  obtain ⟨hp0, hp1, u, rfl, ht⟩ := hv
  obtain ⟨ao, cap, rfl, hc, hz⟩ := ht
  have hl := hsm.1
  clear hz hsm
  by_cases h1 : 0 ≤ t
  · by_cases h2 : t < n.ts.length
    · rw [decide_eq_true (⟨h1, h2⟩ : 0 ≤ t ∧ t < n.ts.length)]
      go_enter Tryz.func64, Tryz.ntmps64
      go_wp2_with fail
      go_ret
      exact ⟨rfl, by (repeat' (first | (with_reducible exact Below.refl _ _) | (with_reducible assumption) | (with_reducible refine Below.alloc ?_ ?_ _) | (with_reducible refine Below.drew ?_) | (with_reducible refine below_drewN ?_ _) | (with_reducible refine Below.setCell ?_ ?_ _) | go_size))⟩
    · rw [decide_eq_false (fun h => h2 h.2 : ¬ (0 ≤ t ∧ t < n.ts.length))]
      go_enter Tryz.func64, Tryz.ntmps64
      go_wp2_with fail
      go_ret
      exact ⟨rfl, by (repeat' (first | (with_reducible exact Below.refl _ _) | (with_reducible assumption) | (with_reducible refine Below.alloc ?_ ?_ _) | (with_reducible refine Below.drew ?_) | (with_reducible refine below_drewN ?_ _) | (with_reducible refine Below.setCell ?_ ?_ _) | go_size))⟩
  · rw [decide_eq_false (fun h => h1 h.1 : ¬ (0 ≤ t ∧ t < n.ts.length))]
    go_enter Tryz.func64, Tryz.ntmps64
    go_wp2_with fail
    go_ret
    exact ⟨rfl, by (repeat' (first | (with_reducible exact Below.refl _ _) | (with_reducible assumption) | (with_reducible refine Below.alloc ?_ ?_ _) | (with_reducible refine Below.drew ?_) | (with_reducible refine below_drewN ?_ _) | (with_reducible refine Below.setCell ?_ ?_ _) | go_size))⟩

end Go.Proofs.YtigkgfdnnfmmmaaGreat
