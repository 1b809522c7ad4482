/- PLAIN PART: the program's firing on padded arrays is the model's on bytes. -/
import Derived.Test.YtigkgfdnnfmmmaaVFireT
namespace Go.Proofs.Ytigkgfdnnfmmmaa
open Go.RowKit

theorem InS.nonneg {N : Int} {l : List Int} (h : InS N l) : ∀ p ∈ l, 0 ≤ p := fun p hp => by
  obtain ⟨i, hi, rfl⟩ := List.mem_iff_getElem.1 hp
  have := (h i hi).1; rwa [getD_eq hi] at this
theorem InS.lt {N : Int} {l : List Int} (h : InS N l) : ∀ p ∈ l, p < N := fun p hp => by
  obtain ⟨i, hi, rfl⟩ := List.mem_iff_getElem.1 hp
  have := (h i hi).2; rwa [getD_eq hi] at this

theorem pad_putAll (v : UInt8) : ∀ (ps : List Int) (bs : List UInt8), (∀ p ∈ ps, 0 ≤ p ∧ p < bs.length) → putAll v (pad bs) ps = pad (putAll v bs ps)
  | [], _, _ => rfl
  | p :: ps, bs, h => by
    have h0 := h p (List.mem_cons_self ..)
    have e1 : putAll v (pad bs) (p :: ps) = putAll v ((pad bs).set p.toNat v) ps := rfl
    have e2 : putAll v bs (p :: ps) = putAll v (bs.set p.toNat v) ps := rfl
    have e3 : (pad bs).set p.toNat v = pad (bs.set p.toNat v) := by
      unfold pad
      rw [List.set_append_left _ _ (by omega), List.length_set]
    rw [e1, e2, e3]
    exact pad_putAll v ps (bs.set p.toNat v) (fun q hq => by rw [List.length_set]; exact h q (List.mem_cons_of_mem _ hq))

theorem pad_getD {bs : List UInt8} {i : Nat} (h : i < bs.length) : (pad bs).getD i 0 = bs.getD i 0 := by
  unfold pad
  simp [List.getD, List.getElem?_append_left h]

theorem putAll_same {v : UInt8} {xs : List UInt8} {b : List Int} (hb : ∀ p ∈ b, 0 ≤ p ∧ p < xs.length) : (putAll v xs b == xs) = decide (∀ p ∈ b, xs.getD p.toNat 0 = v) := by
  by_cases h : ∀ p ∈ b, xs.getD p.toNat 0 = v
  · rw [decide_eq_true h]
    refine beq_iff_eq.2 (bytes_ext (putAll_length _ _ _) fun i hi => ?_)
    rw [putAll_length] at hi
    rw [putAll_getD v b xs i (fun p hp => (hb p hp).1) hi]
    by_cases c : (i : Int) ∈ b
    · rw [if_pos c]; exact (h i c).symm
    · rw [if_neg c]
  · rw [decide_eq_false h]
    refine beq_eq_false_iff_ne.2 fun he => h fun p hp => ?_
    have h0 := hb p hp
    have h2 := putAll_getD v b xs p.toNat (fun p hp => (hb p hp).1) (by omega)
    rw [he, if_pos (by rw [Int.toNat_of_nonneg h0.1]; exact hp)] at h2
    exact h2

theorem all_decide (bs : List UInt8) (ps : List Int) (v : UInt8) : (ps.all fun p => bs.getD p.toNat 0 == v) = decide (∀ p ∈ ps, bs.getD p.toNat 0 = v) := by
  rw [Bool.eq_iff_iff]
  simp only [List.all_eq_true, beq_iff_eq, decide_eq_true_eq]

/-- only '0' and '1' -/
def Dig (bs : List UInt8) : Prop := ∀ i, i < bs.length → bs.getD i 0 = 48 ∨ bs.getD i 0 = 49
theorem Dig.put {bs : List UInt8} (h : Dig bs) {v : UInt8} (hv : v = 48 ∨ v = 49) {ps : List Int} (hp : ∀ p ∈ ps, 0 ≤ p) : Dig (putAll v bs ps) := fun i hi => by
  rw [putAll_length] at hi
  rw [putAll_getD v ps bs i hp hi]
  by_cases c : (i : Int) ∈ ps
  · rw [if_pos c]; exact hv
  · rw [if_neg c]; exact h i hi
theorem mark_dig {n : NetD} {s : ByteArray} (h : markB n s = true) : Dig (bytes s) := fun i hi => by
  unfold markB digB at h
  simp only [Bool.and_eq_true, decide_eq_true_eq] at h
  rw [bytes_length] at hi
  have h1 := h.1 i hi
  rw [get!_eq hi, ← byte_at hi] at h1
  rcases h1 with h1 | h1
  · left; exact UInt8.toNat_inj.1 h1
  · right; exact UInt8.toNat_inj.1 h1

theorem postB_eq {bs : List UInt8} (hd : Dig bs) {ps : List Int} (hp : ∀ p ∈ ps, 0 ≤ p ∧ p < bs.length) : postB bs ps = decide (∀ p ∈ ps, bs.getD p.toNat 0 = 48) := by
  unfold postB
  rw [Bool.eq_iff_iff]
  simp only [List.all_eq_true, Bool.not_eq_true', beq_eq_false_iff_ne, decide_eq_true_eq]
  refine ⟨fun h p hm => ?_, fun h p hm => ?_⟩
  · rcases hd p.toNat (by have := hp p hm; omega) with c | c
    · exact c
    · exact absurd c (h p hm)
  · rw [h p hm]; decide

theorem fire_parts {n : NetD} {s : ByteArray} {t : Int} (hg : goodN n = true) (hm : markB n s = true) (ht : inT n t = true) :
    ftOk (pad (bytes s)) (trOf n t) = fireOk n s t ∧ (fireOk n s t = true → (ftA (pad (bytes s)) (trOf n t)).take s.size = fireS n s t) ∧ (fireOk n s t = false → fireS n s t = []) := by
  have ht3 : 0 ≤ t ∧ t < n.ts.length := of_decide_eq_true ht
  obtain ⟨i1, i2, _, _⟩ := good_tr hg (t := t.toNat) (by omega)
  have hX : n.ts.getD t.toNat ([], []) = trOf n t := rfl
  rw [hX, ← mark_size hm] at i1 i2
  have hl := bytes_length s
  have b1 : ∀ p ∈ (trOf n t).1, 0 ≤ p ∧ p < (bytes s).length := fun p hp => ⟨i1.nonneg p hp, by rw [hl]; exact i1.lt p hp⟩
  have b2 : ∀ p ∈ (trOf n t).2, 0 ≤ p ∧ p < (restB s (trOf n t)).length := fun p hp => ⟨i2.nonneg p hp, by unfold restB; rw [putAll_length, hl]; exact i2.lt p hp⟩
  have h30 : (bytes s).length ≤ 30 := by
    have := mark_size hm
    have := (goodN_parts hg).2.1
    rw [hl]; omega
  have hdr : Dig (restB s (trOf n t)) := (mark_dig hm).put (Or.inl rfl) i1.nonneg
  have r1 : (putAll 49 (pad (bytes s)) (trOf n t).1 == pad (bytes s)) = readyB (bytes s) (trOf n t).1 := by
    rw [putAll_same (fun p hp => ⟨(b1 p hp).1, by have := b1 p hp; rw [pad_length h30]; omega⟩)]
    unfold readyB
    rw [all_decide]
    exact decide_eq_decide.2 ⟨fun h p hp => by have := h p hp; rwa [pad_getD (by have := b1 p hp; omega)] at this, fun h p hp => by rw [pad_getD (by have := b1 p hp; omega)]; exact h p hp⟩
  have r2 : putAll 48 (pad (bytes s)) (trOf n t).1 = pad (restB s (trOf n t)) := pad_putAll 48 _ _ b1
  have hrl : (restB s (trOf n t)).length ≤ 30 := by unfold restB; rw [putAll_length]; exact h30
  have r3 : (putAll 48 (pad (restB s (trOf n t))) (trOf n t).2 == pad (restB s (trOf n t))) = postB (restB s (trOf n t)) (trOf n t).2 := by
    rw [putAll_same (fun p hp => ⟨(b2 p hp).1, by have := b2 p hp; rw [pad_length hrl]; omega⟩), postB_eq hdr b2]
    exact decide_eq_decide.2 ⟨fun h p hp => by have := h p hp; rwa [pad_getD (by have := b2 p hp; omega)] at this, fun h p hp => by rw [pad_getD (by have := b2 p hp; omega)]; exact h p hp⟩
  have hok : ftOk (pad (bytes s)) (trOf n t) = fireOk n s t := by
    unfold ftOk fireOk canB
    rw [r1, r2, r3, hg, hm, ht]
    simp
  refine ⟨hok, fun h => ?_, fun h => ?_⟩
  · unfold ftA
    rw [hok, if_pos h, r2, pad_putAll 49 _ _ b2]
    have h' := h
    unfold fireOk at h'
    simp only [Bool.and_eq_true] at h'
    unfold fireS fired
    rw [if_pos h'.1, if_pos h'.2]
    have hlen : (putAll 49 (restB s (trOf n t)) (trOf n t).2).length = s.size := by
      rw [putAll_length]; unfold restB; rw [putAll_length, hl]
    unfold pad
    rw [← hlen, List.take_left']
    rfl
  · unfold fireOk at h
    unfold fireS fired
    by_cases c : canB n s t = true
    · rw [c, Bool.true_and] at h
      rw [if_pos c, if_neg (by rw [h]; simp)]
    · rw [if_neg c]

end Go.Proofs.Ytigkgfdnnfmmmaa
