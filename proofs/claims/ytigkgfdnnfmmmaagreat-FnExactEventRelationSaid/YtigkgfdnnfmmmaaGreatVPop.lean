/- PLAIN PART: the count of bits by adding neighbours (64 bits): it is the number of bits; more than one: two bits are set. No program is named here. -/
import Derived.WalkKit
namespace Go.Proofs.YtigkgfdnnfmmmaaGreat

def popA : Nat → Nat → Nat
  | 0, _ => 0
  | n + 1, x => x % 2 + popA n (x / 2)
def valB : List Nat → Nat
  | [] => 0
  | b :: l => b + 256 * valB l
theorem and_cons (b v c m : Nat) (hb : b < 256) (hc : c < 256) : (b + 256 * v) &&& (c + 256 * m) = (b &&& c) + 256 * (v &&& m) := by
  have h1 : ((b + 256 * v) &&& (c + 256 * m)) % 2 ^ 8 = ((b + 256 * v) % 2 ^ 8) &&& ((c + 256 * m) % 2 ^ 8) := Nat.and_mod_two_pow
  have h2 : ((b + 256 * v) &&& (c + 256 * m)) / 2 ^ 8 = ((b + 256 * v) / 2 ^ 8) &&& ((c + 256 * m) / 2 ^ 8) := Nat.and_div_two_pow
  have e1 : (b + 256 * v) % 2 ^ 8 = b := by omega
  have e2 : (c + 256 * m) % 2 ^ 8 = c := by omega
  have e3 : (b + 256 * v) / 2 ^ 8 = v := by omega
  have e4 : (c + 256 * m) / 2 ^ 8 = m := by omega
  rw [e1, e2] at h1
  rw [e3, e4] at h2
  omega
def bytesOf : Nat → Nat → List Nat
  | 0, _ => []
  | n + 1, x => x % 256 :: bytesOf n (x / 256)
theorem val_bytes : ∀ n x, x < 256 ^ n → valB (bytesOf n x) = x
  | 0, x, h => by simp at h; simp [bytesOf, valB, h]
  | n + 1, x, h => by
    have : x / 256 < 256 ^ n := by rw [Nat.div_lt_iff_lt_mul (by omega)]; rw [Nat.pow_succ] at h; exact h
    simp only [bytesOf, valB, val_bytes n _ this]
    omega
theorem bytes_lt : ∀ n x b, b ∈ bytesOf n x → b < 256
  | 0, x, b, h => by simp [bytesOf] at h
  | n + 1, x, b, h => by
    simp only [bytesOf, List.mem_cons] at h
    rcases h with rfl | h
    · omega
    · exact bytes_lt n _ b h
/-- one step on a byte -/
def p1 (b : Nat) : Nat := (b / 2 &&& 85) + (b &&& 85)
def p2 (b : Nat) : Nat := (b / 4 &&& 51) + (b &&& 51)
def p3 (b : Nat) : Nat := (b / 16 + b) &&& 15
def rep (c : Nat) : Nat → Nat
  | 0 => 0
  | n + 1 => c + 256 * rep c n
theorem sh1 : ∀ b : Fin 256, ∀ r : Fin 2, (b.val / 2 + 128 * r.val) &&& 85 = (b.val / 2 &&& 85) := by decide +kernel
theorem sh2 : ∀ b : Fin 256, ∀ r : Fin 4, (b.val / 4 + 64 * r.val) &&& 51 = (b.val / 4 &&& 51) := by decide +kernel
theorem bnd1 : ∀ b : Fin 256, p1 b.val < 256 := by decide +kernel
theorem step1 : ∀ l : List Nat, (∀ b ∈ l, b < 256) → (valB l / 2 &&& rep 85 l.length) + (valB l &&& rep 85 l.length) = valB (l.map p1)
  | [], _ => rfl
  | b :: l, h => by
    have hb : b < 256 := h b (List.mem_cons_self ..)
    have ih := step1 l (fun x hx => h x (List.mem_cons_of_mem _ hx))
    have e : valB (b :: l) / 2 = (b / 2 + 128 * (valB l % 2)) + 256 * (valB l / 2) := by simp only [valB]; omega
    rw [e]
    simp only [List.length_cons, rep, List.map_cons, valB]
    rw [and_cons _ _ _ _ (by omega) (by omega), and_cons _ _ _ _ hb (by omega)]
    have hs := sh1 ⟨b, hb⟩ ⟨valB l % 2, by omega⟩
    simp only at hs
    rw [hs, ← ih]
    unfold p1
    omega
theorem step2 : ∀ l : List Nat, (∀ b ∈ l, b < 256) → (valB l / 4 &&& rep 51 l.length) + (valB l &&& rep 51 l.length) = valB (l.map p2)
  | [], _ => rfl
  | b :: l, h => by
    have hb : b < 256 := h b (List.mem_cons_self ..)
    have ih := step2 l (fun x hx => h x (List.mem_cons_of_mem _ hx))
    have e : valB (b :: l) / 4 = (b / 4 + 64 * (valB l % 4)) + 256 * (valB l / 4) := by simp only [valB]; omega
    rw [e]
    simp only [List.length_cons, rep, List.map_cons, valB]
    rw [and_cons _ _ _ _ (by omega) (by omega), and_cons _ _ _ _ hb (by omega)]
    have hs := sh2 ⟨b, hb⟩ ⟨valB l % 4, by omega⟩
    simp only at hs
    rw [hs, ← ih]
    unfold p2
    omega
/-- both nibbles are at most 4 -/
def nib (b : Nat) : Prop := b / 16 ≤ 4 ∧ b % 16 ≤ 4
theorem sh3 : ∀ i j k : Fin 5, (i.val + 16 * j.val + (16 * i.val + k.val)) &&& 15 = (i.val + (16 * i.val + k.val)) &&& 15 := by decide +kernel
theorem step3 : ∀ l : List Nat, (∀ b ∈ l, nib b) → (valB l / 16 + valB l) &&& rep 15 l.length = valB (l.map p3)
  | [], _ => rfl
  | b :: l, h => by
    have hb : nib b := h b (List.mem_cons_self ..)
    have ih := step3 l (fun x hx => h x (List.mem_cons_of_mem _ hx))
    have hn : valB l % 16 ≤ 4 := by
      cases l with
      | nil => simp [valB]
      | cons c l => have := (h c (List.mem_cons_of_mem _ (List.mem_cons_self ..))).2; simp only [valB]; omega
    obtain ⟨hb1, hb2⟩ := hb
    have e : valB (b :: l) / 16 + valB (b :: l) = (b / 16 + 16 * (valB l % 16) + b) + 256 * (valB l / 16 + valB l) := by simp only [valB]; omega
    rw [e]
    simp only [List.length_cons, rep, List.map_cons, valB]
    rw [and_cons _ _ _ _ (by omega) (by omega), ih]
    have hs := sh3 ⟨b / 16, by omega⟩ ⟨valB l % 16, by omega⟩ ⟨b % 16, by omega⟩
    simp only at hs
    have e2 : 16 * (b / 16) + b % 16 = b := Nat.div_add_mod b 16
    rw [e2] at hs
    rw [hs]; rfl
theorem pb : ∀ b : Fin 256, p3 (p2 (p1 b.val)) = popA 8 b.val ∧ p3 (p2 (p1 b.val)) ≤ 8 ∧ p1 b.val < 256 ∧ p2 (p1 b.val) / 16 ≤ 4 ∧ p2 (p1 b.val) % 16 ≤ 4 := by decide +kernel
theorem popA_add : ∀ n m x, popA (n + m) x = popA n (x % 2 ^ n) + popA m (x / 2 ^ n)
  | 0, m, x => by simp [popA]
  | n + 1, m, x => by
    rw [show n + 1 + m = (n + m) + 1 by omega]
    simp only [popA]
    rw [popA_add n m (x / 2)]
    have e1 : x % 2 ^ (n + 1) % 2 = x % 2 := by rw [Nat.pow_succ, Nat.mul_comm, Nat.mod_mul_right_mod]
    have e2 : x % 2 ^ (n + 1) / 2 = x / 2 % 2 ^ n := by rw [Nat.pow_succ, Nat.mul_comm, Nat.mod_mul_right_div_self]
    have e3 : x / 2 / 2 ^ n = x / 2 ^ (n + 1) := by rw [Nat.div_div_eq_div_mul, Nat.pow_succ, Nat.mul_comm]
    rw [e1, e2, e3]; omega
def swar (x : Nat) : Nat :=
  let a := (x / 2 &&& 6148914691236517205) + (x &&& 6148914691236517205)
  let b := (a / 4 &&& 3689348814741910323) + (a &&& 3689348814741910323)
  let c := (b / 16 + b) &&& 1085102592571150095
  let d := c + c / 256
  let e := d + d / 65536
  let f := e + e / 4294967296
  f % 128
theorem dvK (a T k : Nat) (h : a < k) : (a + k * T) / k = T := by
  have hk : 0 < k := by omega
  rw [Nat.add_mul_div_left _ _ hk, Nat.div_eq_of_lt h, Nat.zero_add]
theorem bK (c T U K : Nat) (h : c ≤ 8) (e : T = c + 256 * U) (hU : U ≤ K) : T ≤ 8 + 256 * K := by omega
theorem lK (a b c d : Nat) (h0 : a ≤ 8) (h1 : b ≤ 8) (h2 : c ≤ 8) (h3 : d ≤ 8) : a + 256 * b + 65536 * c + 16777216 * d ≤ 134744072 := by omega
theorem e2K (c0 c1 c2 T1 T2 T3 c : Nat) (hc : c = c0 + 256 * T1) (t1 : T1 = c1 + 256 * T2) (t2 : T2 = c2 + 256 * T3) : c + T1 = (c0 + c1 + 256 * (c1 + c2)) + 65536 * (T2 + T3) := by
  subst hc; subst t1; subst t2; omega
theorem qK (c0 c1 c2 c3 T0 T1 T2 T3 T4 : Nat) (t0 : T0 = c0 + 256 * T1) (t1 : T1 = c1 + 256 * T2) (t2 : T2 = c2 + 256 * T3) (t3 : T3 = c3 + 256 * T4) : T0 = (c0 + 256 * c1 + 65536 * c2 + 16777216 * c3) + 4294967296 * T4 := by
  subst t0; subst t1; subst t2; subst t3; omega
theorem q6K (c0 c1 c2 c3 c4 c5 c6 T0 T1 T2 T3 T4 T5 T6 T7 : Nat) (t0 : T0 = c0 + 256 * T1) (t1 : T1 = c1 + 256 * T2) (t2 : T2 = c2 + 256 * T3) (t3 : T3 = c3 + 256 * T4) (t4 : T4 = c4 + 256 * T5) (t5 : T5 = c5 + 256 * T6) (t6 : T6 = c6 + 256 * T7) :
    T0 + T1 + T2 + T3 + (T4 + T5 + T6 + T7) = (c0 + c1 + c2 + c3 + c4 + c5 + c6 + T7) + 128 * (2 * (T1 + T2 + T3 + T4 + T5 + T6 + T7)) := by
  have h : T0 + T1 + T2 + T3 + (T4 + T5 + T6 + T7) = (c0 + 256 * T1) + (c1 + 256 * T2) + (c2 + 256 * T3) + (c3 + 256 * T4) + ((c4 + 256 * T5) + (c5 + 256 * T6) + (c6 + 256 * T7) + T7) := by
    rw [← t0, ← t1, ← t2, ← t3, ← t4, ← t5, ← t6]
  rw [h]; clear h t0 t1 t2 t3 t4 t5 t6; omega
theorem fin8 (c0 c1 c2 c3 c4 c5 c6 T1 T2 T3 T4 T5 T6 T7 c d e f : Nat) (h0 : c0 ≤ 8) (h1 : c1 ≤ 8) (h2 : c2 ≤ 8) (h3 : c3 ≤ 8) (h4 : c4 ≤ 8) (h5 : c5 ≤ 8) (h6 : c6 ≤ 8) (h7 : T7 ≤ 8)
    (hc : c = c0 + 256 * T1) (t1 : T1 = c1 + 256 * T2) (t2 : T2 = c2 + 256 * T3) (t3 : T3 = c3 + 256 * T4) (t4 : T4 = c4 + 256 * T5) (t5 : T5 = c5 + 256 * T6) (t6 : T6 = c6 + 256 * T7)
    (hd : d = c + c / 256) (he : e = d + d / 65536) (hf : f = e + e / 4294967296) : f % 128 = c0 + c1 + c2 + c3 + c4 + c5 + c6 + T7 ∧ f < 4611686018427387904 ∧ d < 4611686018427387904 ∧ e < 4611686018427387904 := by
  have e1 : c / 256 = T1 := by rw [hc]; exact dvK _ _ _ (by clear hc hd he hf t1 t2 t3 t4 t5 t6; omega)
  rw [e1] at hd
  rw [e2K c0 c1 c2 T1 T2 T3 c hc t1 t2] at hd
  have e2 : d / 65536 = T2 + T3 := by rw [hd]; exact dvK _ _ _ (by clear hc hd he hf t1 t2 t3 t4 t5 t6 e1; omega)
  rw [e2] at he
  rw [hd, ← e2K c0 c1 c2 T1 T2 T3 c hc t1 t2] at he
  rw [← e2K c0 c1 c2 T1 T2 T3 c hc t1 t2] at hd
  have he2 : e = ((c0 + 256 * c1 + 65536 * c2 + 16777216 * c3) + (c1 + 256 * c2 + 65536 * c3 + 16777216 * c4) + (c2 + 256 * c3 + 65536 * c4 + 16777216 * c5) + (c3 + 256 * c4 + 65536 * c5 + 16777216 * c6)) + 4294967296 * (T4 + T5 + T6 + T7) := by
    have q0 := qK c0 c1 c2 c3 c T1 T2 T3 T4 hc t1 t2 t3
    have q1 := qK c1 c2 c3 c4 T1 T2 T3 T4 T5 t1 t2 t3 t4
    have q2 := qK c2 c3 c4 c5 T2 T3 T4 T5 T6 t2 t3 t4 t5
    have q3 := qK c3 c4 c5 c6 T3 T4 T5 T6 T7 t3 t4 t5 t6
    have he3 : e = ((c0 + 256 * c1 + 65536 * c2 + 16777216 * c3) + 4294967296 * T4) + ((c1 + 256 * c2 + 65536 * c3 + 16777216 * c4) + 4294967296 * T5) + (((c2 + 256 * c3 + 65536 * c4 + 16777216 * c5) + 4294967296 * T6) + ((c3 + 256 * c4 + 65536 * c5 + 16777216 * c6) + 4294967296 * T7)) := by
      rw [← q0, ← q1, ← q2, ← q3]; exact he
    rw [he3]
    clear he3 q0 q1 q2 q3 he hd hc hf t1 t2 t3 t4 t5 t6 e1 e2 h0 h1 h2 h3 h4 h5 h6 h7
    omega
  have l0 := lK c0 c1 c2 c3 h0 h1 h2 h3
  have l1 := lK c1 c2 c3 c4 h1 h2 h3 h4
  have l2 := lK c2 c3 c4 c5 h2 h3 h4 h5
  have l3 := lK c3 c4 c5 c6 h3 h4 h5 h6
  have e3 : e / 4294967296 = T4 + T5 + T6 + T7 := by
    rw [he2]; exact dvK _ _ _ (Nat.lt_of_le_of_lt (Nat.add_le_add (Nat.add_le_add (Nat.add_le_add l0 l1) l2) l3) (by decide))
  rw [e3] at hf
  have b6 := bK _ _ _ _ h6 t6 h7
  have b5 := bK _ _ _ _ h5 t5 b6
  have b4 := bK _ _ _ _ h4 t4 b5
  have b3 := bK _ _ _ _ h3 t3 b4
  have b2 := bK _ _ _ _ h2 t2 b3
  have b1 := bK _ _ _ _ h1 t1 b2
  have b0 := bK _ _ _ _ h0 hc b1
  have hf2 : f = T1 + c + T2 + T3 + (T4 + T5 + T6 + T7) := by rw [hf, he]; clear hf he hd he2 e1 e2 e3 l0 l1 l2 l3 b0 b1 b2 b3 b4 b5 b6 hc t1 t2 t3 t4 t5 t6; omega
  have q6 := q6K c0 c1 c2 c3 c4 c5 c6 c T1 T2 T3 T4 T5 T6 T7 hc t1 t2 t3 t4 t5 t6
  rw [Nat.add_comm T1 c] at hf2
  clear he2 e1 e2 e3 l0 l1 l2 l3 hc t1 t2 t3 t4 t5 t6 hf
  refine ⟨?_, ?_, ?_, ?_⟩
  · rw [hf2, q6, Nat.add_mul_mod_self_left]
    clear hf2 q6 hd he b0 b1 b2 b3 b4 b5 b6
    exact Nat.mod_eq_of_lt (by omega)
  · clear q6 hd he h0 h1 h2 h3 h4 h5 h6; omega
  · clear q6 hf2 he h0 h1 h2 h3 h4 h5 h6; omega
  · clear q6 hf2 hd h0 h1 h2 h3 h4 h5 h6; omega
theorem fin8v (c0 c1 c2 c3 c4 c5 c6 c7 : Nat) (h0 : c0 ≤ 8) (h1 : c1 ≤ 8) (h2 : c2 ≤ 8) (h3 : c3 ≤ 8) (h4 : c4 ≤ 8) (h5 : c5 ≤ 8) (h6 : c6 ≤ 8) (h7 : c7 ≤ 8) (c d e f : Nat)
    (hc : c = valB [c0, c1, c2, c3, c4, c5, c6, c7]) (hd : d = c + c / 256) (he : e = d + d / 65536) (hf : f = e + e / 4294967296) : f % 128 = c0 + c1 + c2 + c3 + c4 + c5 + c6 + c7 ∧ f < 4611686018427387904 ∧ d < 4611686018427387904 ∧ e < 4611686018427387904 :=
  fin8 c0 c1 c2 c3 c4 c5 c6 _ _ _ _ _ _ c7 c d e f h0 h1 h2 h3 h4 h5 h6 h7 hc rfl rfl rfl rfl rfl rfl hd he hf
theorem swar_pop (x : Nat) (hx : x < 18446744073709551616) : swar x = popA 64 x := by
  obtain ⟨l, hl⟩ : ∃ l, l = bytesOf 8 x := ⟨_, rfl⟩
  have hv : valB l = x := by rw [hl]; exact val_bytes 8 x hx
  have hlt : ∀ b ∈ l, b < 256 := by rw [hl]; exact bytes_lt 8 x
  have hlen : l.length = 8 := by rw [hl]; rfl
  have s1 := step1 l hlt
  have s2 := step2 (l.map p1) (by intro b hb; obtain ⟨y, hy, rfl⟩ := List.mem_map.1 hb; exact (pb ⟨y, hlt y hy⟩).2.2.1)
  have s3 := step3 ((l.map p1).map p2) (by intro b hb; obtain ⟨y, hy, rfl⟩ := List.mem_map.1 hb; obtain ⟨z, hz, rfl⟩ := List.mem_map.1 hy; exact (pb ⟨z, hlt z hz⟩).2.2.2)
  simp only [List.length_map, hlen] at s1 s2 s3
  rw [hv] at s1
  have m1 : rep 85 8 = 6148914691236517205 := rfl
  have m2 : rep 51 8 = 3689348814741910323 := rfl
  have m3 : rep 15 8 = 1085102592571150095 := rfl
  rw [m1] at s1; rw [m2] at s2; rw [m3] at s3
  unfold swar
  simp only [s1, s2, s3]
  have hp : ∀ b ∈ l, p3 (p2 (p1 b)) = popA 8 b ∧ p3 (p2 (p1 b)) ≤ 8 := fun b hb => ⟨(pb ⟨b, hlt b hb⟩).1, (pb ⟨b, hlt b hb⟩).2.1⟩
  have e : l = [x % 256, x / 256 % 256, x / 256 / 256 % 256, x / 256 / 256 / 256 % 256, x / 256 / 256 / 256 / 256 % 256, x / 256 / 256 / 256 / 256 / 256 % 256, x / 256 / 256 / 256 / 256 / 256 / 256 % 256, x / 256 / 256 / 256 / 256 / 256 / 256 / 256 % 256] := hl
  rw [e] at hp ⊢
  simp only [List.mem_cons, List.not_mem_nil, or_false, forall_eq_or_imp, forall_eq] at hp
  obtain ⟨q0, q1, q2, q3, q4, q5, q6, q7⟩ := hp
  simp only [List.map_cons, List.map_nil]
  have key := fin8v _ _ _ _ _ _ _ _ q0.2 q1.2 q2.2 q3.2 q4.2 q5.2 q6.2 q7.2 _ _ _ _ rfl rfl rfl rfl
  rw [key.1, q0.1, q1.1, q2.1, q3.1, q4.1, q5.1, q6.1, q7.1]
  rw [show (64 : Nat) = 8 + (8 + (8 + (8 + (8 + (8 + (8 + 8)))))) from rfl]
  simp only [popA_add, show (2 : Nat) ^ 8 = 256 from rfl]
  have z : ∀ y, popA 8 y = popA 8 (y % 256) := by
    intro y
    have := popA_add 8 0 y
    simp only [popA, Nat.add_zero] at this ⊢
    exact this
  rw [z (x / 256 / 256 / 256 / 256 / 256 / 256 / 256)]
  omega
/-- more than one bit is set -/
theorem popA_zero : ∀ n x, popA n x = 0 ↔ ∀ i, i < n → x.testBit i = false
  | 0, x => by simp [popA]
  | n + 1, x => by
    simp only [popA]
    have ih := popA_zero n (x / 2)
    constructor
    · intro h i hi
      cases i with
      | zero => rw [Nat.testBit_zero]; simp; omega
      | succ i => rw [Nat.testBit_succ]; exact ih.1 (by omega) i (by omega)
    · intro h
      have h0 := h 0 (by omega)
      rw [Nat.testBit_zero] at h0
      simp at h0
      have := ih.2 (fun i hi => by rw [← Nat.testBit_succ]; exact h (i + 1) (by omega))
      omega
theorem popA_two : ∀ n x, 1 < popA n x ↔ ∃ i j, i < j ∧ j < n ∧ x.testBit i = true ∧ x.testBit j = true
  | 0, x => by simp [popA]
  | n + 1, x => by
    simp only [popA]
    have ih := popA_two n (x / 2)
    have hz := popA_zero n (x / 2)
    constructor
    · intro h
      by_cases h1 : 1 < popA n (x / 2)
      · obtain ⟨i, j, a, b, c, d⟩ := ih.1 h1
        exact ⟨i + 1, j + 1, by omega, by omega, by rw [Nat.testBit_succ]; exact c, by rw [Nat.testBit_succ]; exact d⟩
      · have h2 : x % 2 = 1 := by omega
        have h3 : popA n (x / 2) ≠ 0 := by omega
        have : ∃ j, j < n ∧ (x / 2).testBit j = true := by
          apply Classical.byContradiction
          intro hn
          apply h3
          rw [hz]
          intro i hi
          cases hb : (x / 2).testBit i with
          | false => rfl
          | true => exact absurd ⟨i, hi, hb⟩ hn
        obtain ⟨j, hj, hb⟩ := this
        exact ⟨0, j + 1, by omega, by omega, by rw [Nat.testBit_zero]; simp [h2], by rw [Nat.testBit_succ]; exact hb⟩
    · rintro ⟨i, j, a, b, c, d⟩
      cases j with
      | zero => omega
      | succ j =>
        rw [Nat.testBit_succ] at d
        cases i with
        | zero =>
          rw [Nat.testBit_zero] at c
          simp at c
          have : popA n (x / 2) ≠ 0 := by
            intro h
            have := hz.1 h j (by omega)
            rw [d] at this
            cases this
          omega
        | succ i =>
          rw [Nat.testBit_succ] at c
          have := ih.2 ⟨i, j, by omega, by omega, c, d⟩
          omega

theorem val_le_rep (c : Nat) : ∀ l : List Nat, (∀ b ∈ l, b ≤ c) → valB l ≤ rep c l.length
  | [], _ => Nat.le_refl _
  | b :: l, h => by
    have h1 := h b (List.mem_cons_self ..)
    have ih := val_le_rep c l (fun x hx => h x (List.mem_cons_of_mem _ hx))
    simp only [valB, List.length_cons, rep]
    omega
theorem pb2 : ∀ b : Fin 256, p1 b.val ≤ 170 ∧ p2 (p1 b.val) ≤ 68 := by decide +kernel
/-- the steps of the count fit in 64 bits -/
theorem swar_fit (x : Nat) (hx : x < 18446744073709551616) (a b c d e f : Nat) (ha : a = (x / 2 &&& 6148914691236517205) + (x &&& 6148914691236517205)) (hb : b = (a / 4 &&& 3689348814741910323) + (a &&& 3689348814741910323))
    (hc : c = (b / 16 + b) &&& 1085102592571150095) (hd : d = c + c / 256) (he : e = d + d / 65536) (hf : f = e + e / 4294967296) :
    f % 128 = popA 64 x ∧ a < 18446744073709551616 ∧ b < 6000000000000000000 ∧ c < 18446744073709551616 ∧ d < 4611686018427387904 ∧ e < 4611686018427387904 ∧ f < 4611686018427387904 := by
  obtain ⟨l, hl⟩ : ∃ l, l = bytesOf 8 x := ⟨_, rfl⟩
  have hv : valB l = x := by rw [hl]; exact val_bytes 8 x hx
  have hlt : ∀ b ∈ l, b < 256 := by rw [hl]; exact bytes_lt 8 x
  have hlen : l.length = 8 := by rw [hl]; rfl
  have s1 := step1 l hlt
  have s2 := step2 (l.map p1) (by intro b hb; obtain ⟨y, hy, rfl⟩ := List.mem_map.1 hb; exact (pb ⟨y, hlt y hy⟩).2.2.1)
  have s3 := step3 ((l.map p1).map p2) (by intro b hb; obtain ⟨y, hy, rfl⟩ := List.mem_map.1 hb; obtain ⟨z, hz, rfl⟩ := List.mem_map.1 hy; exact (pb ⟨z, hlt z hz⟩).2.2.2)
  have g1 := val_le_rep 170 (l.map p1) (by intro b hb; obtain ⟨y, hy, rfl⟩ := List.mem_map.1 hb; exact (pb2 ⟨y, hlt y hy⟩).1)
  have g2 := val_le_rep 68 ((l.map p1).map p2) (by intro b hb; obtain ⟨y, hy, rfl⟩ := List.mem_map.1 hb; obtain ⟨z, hz, rfl⟩ := List.mem_map.1 hy; exact (pb2 ⟨z, hlt z hz⟩).2)
  have g3 := val_le_rep 8 (((l.map p1).map p2).map p3) (by intro b hb; obtain ⟨y, hy, rfl⟩ := List.mem_map.1 hb; obtain ⟨z, hz, rfl⟩ := List.mem_map.1 hy; obtain ⟨u, hu, rfl⟩ := List.mem_map.1 hz; exact (pb ⟨u, hlt u hu⟩).2.1)
  simp only [List.length_map, hlen] at s1 s2 s3 g1 g2 g3
  rw [hv] at s1
  have m1 : rep 85 8 = 6148914691236517205 := rfl
  have m2 : rep 51 8 = 3689348814741910323 := rfl
  have m3 : rep 15 8 = 1085102592571150095 := rfl
  have m4 : rep 170 8 = 12297829382473034410 := rfl
  have m5 : rep 68 8 = 4919131752989213764 := rfl
  have m6 : rep 8 8 = 578721382704613384 := rfl
  rw [m1] at s1; rw [m2] at s2; rw [m3] at s3; rw [m4] at g1; rw [m5] at g2; rw [m6] at g3
  rw [s1] at ha; rw [ha, s2] at hb; rw [hb, s3] at hc
  have hsw := swar_pop x hx
  unfold swar at hsw
  simp only [s1, s2, s3] at hsw
  rw [← hc] at hsw g3
  rw [← hb] at g2
  rw [← ha] at g1
  have hd' := hd; have he' := he; have hf' := hf
  rw [← hd, ← he, ← hf] at hsw
  clear s1 s2 s3 ha hb hc m1 m2 m3 m4 m5 m6 hlt hlen hv hl
  have d1 : d ≤ 2 * c := by omega
  have e1 : 2 * e ≤ 3 * d := by omega
  have f1 : 2 * f ≤ 3 * e := by omega
  clear hd he hf hd' he' hf'
  refine ⟨hsw, by omega, by omega, by omega, by omega, by omega, by omega⟩

end Go.Proofs.YtigkgfdnnfmmmaaGreat
