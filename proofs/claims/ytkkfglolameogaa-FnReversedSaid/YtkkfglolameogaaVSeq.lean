/- FIRE SEQUENCES: the plain part, and the model's walk. -/
import Derived.Test.YtkkfglolameogaaVIfire
namespace Go.Proofs.Ytkkfglolameogaa
open Go.RowKit

/-- firing in order -/
def runSeq (n : NetD) : List Int → ByteArray → Nat → ByteArray × Nat × Bool
  | [], s, k => (s, k, true)
  | t :: l, s, k => if fireOk n s t = true then runSeq n l (bstr (fireS n s t)) (k + 1) else (s, k, false)
def seqOk (n : NetD) (s : ByteArray) (l : List Int) : Bool := goodN n && (markB n s && decide (l.length ≤ 200))
def seqR (n : NetD) (s : ByteArray) (l : List Int) : ByteArray × Nat × Bool := if seqOk n s l = true then runSeq n l s 0 else (bstr [], 0, false)

theorem drop_getD {l : List Int} {k : Nat} (hk : k < l.length) : l.drop k = l.getD k 0 :: l.drop (k + 1) := by
  rw [List.drop_eq_getElem_cons hk, getD_eq hk]
theorem run_step {n : NetD} {l : List Int} {s : ByteArray} {k : Nat} (hk : k < l.length) (h : fireOk n s (l.getD k 0) = true) : runSeq n (l.drop k) s k = runSeq n (l.drop (k + 1)) (bstr (fireS n s (l.getD k 0))) (k + 1) := by
  rw [drop_getD hk, runSeq, if_pos h]
theorem run_stop {n : NetD} {l : List Int} {s : ByteArray} {k : Nat} (hk : k < l.length) (h : fireOk n s (l.getD k 0) = false) : runSeq n (l.drop k) s k = (s, k, false) := by
  rw [drop_getD hk, runSeq, if_neg (by rw [h]; simp)]
theorem run_end {n : NetD} {l : List Int} {s : ByteArray} : runSeq n (l.drop l.length) s l.length = (s, l.length, true) := by
  rw [List.drop_length, runSeq]

theorem dig_mark {n : NetD} {bs : List UInt8} (h : Dig bs) (hl : (bs.length : Int) = n.places) : markB n (bstr bs) = true := by
  unfold markB digB
  rw [bstr_size, decide_eq_true hl, Bool.and_true, decide_eq_true_eq]
  intro i hi
  have hs : i < (bstr bs).size := by rw [bstr_size]; exact hi
  rw [get!_eq hs, ← byte_at hs, bytes_bstr]
  rcases h i hi with c | c
  · left; rw [c]; rfl
  · right; rw [c]; rfl

theorem fired_mark {n : NetD} {s : ByteArray} {t : Int} (h : fireOk n s t = true) : markB n (bstr (fireS n s t)) = true := by
  have h' := h
  unfold fireOk at h'
  simp only [Bool.and_eq_true] at h'
  obtain ⟨hc, hp⟩ := h'
  have hc' := hc
  unfold canB at hc'
  simp only [Bool.and_eq_true] at hc'
  obtain ⟨hg, hm, ht, _⟩ := hc'
  have ht3 : 0 ≤ t ∧ t < n.ts.length := of_decide_eq_true ht
  obtain ⟨i1, i2, _, _⟩ := good_tr hg (t := t.toNat) (by omega)
  unfold fireS fired
  rw [if_pos hc, if_pos hp]
  refine dig_mark ?_ ?_
  · exact ((mark_dig hm).put (Or.inl rfl) i1.nonneg).put (Or.inr rfl) i2.nonneg
  · rw [putAll_length]; unfold restB; rw [putAll_length, bytes_length]; exact mark_size hm
theorem mark_small {n : NetD} {s : ByteArray} (hg : goodN n = true) (hm : markB n s = true) : s.size ≤ 30 := by
  have := mark_size hm
  have := (goodN_parts hg).2.1
  omega

set_option maxRecDepth 100000 in
set_option maxHeartbeats 2000000 in
theorem specFireSequence_any (v : Value) (n : NetD) (s : ByteArray) (vl : Value) (l : List Int) (w : World) (lo lo' : Nat) (hv : NetAt lo w v n) (hs : SmallTrs n.ts) (hsz : s.size ≤ 1048576) (hl : IntsAt lo' w vl l) (hll : l.length ≤ 1048576) :
    Calls Try.prog 42 #[v, .string s, vl] w (RetV w (.tuple #[.string (seqR n s l).1, .int .i64 ((seqR n s l).2.1 : Nat), .bool (seqR n s l).2.2])) := by
  generalize hR : seqR n s l = R
  unfold seqR at hR
  have HR := Lib.hid hR; clear hR
  obtain ⟨rs, rk, rb⟩ := R
  simp only
  have hv' := hv
  obtain ⟨hp0, hp1, q, rfl, ht⟩ := hv'
  obtain ⟨ao, cap, rfl, hc, hz⟩ := ht
  obtain ⟨p, hp⟩ : ∃ p, p = n.places := ⟨_, rfl⟩
  obtain ⟨m, hm⟩ : ∃ m, m = n.ts.length := ⟨_, rfl⟩
  rw [← hp, ← hm] at hv ⊢
  clear hz hc hp0 hp1 hp hm
  have HV := Lib.hid hv; clear hv
  have HS := Lib.hid hs; clear hs
  obtain ⟨al, cl, rfl, hcl, hzl⟩ := hl
  have HF := Lib.hid hzl; clear hzl
  go_enter Try.func42, Try.ntmps42
  go_wp2_with fail
  refine (l1Good_any _ n _ lo (HV.out.keep ?_) HS.out).mono ?_
  · (repeat' (first | (with_reducible exact Carries.refl _ _) | (with_reducible assumption) | (with_reducible refine Carries.alloc ?_ _) | (with_reducible refine Carries.drew ?_) | (with_reducible refine Carries.drewN ?_ _) | (with_reducible refine Carries.set ?_ ?_ _) | go_size))
  rintro e w1 ⟨rfl, hb⟩
  have hw1 : Below w.heap.size w w1 := by
    refine Below.trans ?_ (hb.mono ?_)
    · (repeat' (first | (with_reducible exact Below.refl _ _) | (with_reducible assumption) | (with_reducible refine Below.alloc ?_ ?_ _) | (with_reducible refine Below.drew ?_) | (with_reducible refine below_drewN ?_ _) | (with_reducible refine Below.setCell ?_ ?_ _) | go_size))
    · simp
  have a0 : w1.cell? ⟨w.heap.size, 0, none⟩ = some (.int .i64 p) := cell_carry (by simp) (Carries.of 0 hb)
  have a1 : w1.cell? ⟨w.heap.size, 1, none⟩ = some (.slice ao m cap) := cell_carry (by simp) (Carries.of 0 hb)
  have z1 : w.heap.size < w1.heap.size := by have := hb.size; simp at this; omega
  clear hb
  cases hg : goodN n with
  | false =>
    have hcf : seqOk n s l = false := by unfold seqOk; rw [hg]; rfl
    have k := HR.out
    rw [hcf, if_neg (by simp)] at k
    simp only [Prod.mk.injEq] at k
    obtain ⟨rfl, rfl, rfl⟩ := k
    clear hg hcf
    go_wp2_with fail
    go_ret3
    exact ⟨rfl, hw1⟩
  | true =>
  have HG := Lib.hid hg; clear hg
  go_wp2_with fail
  refine (l1Mark_any _ n s _ lo (HV.out.keep (Carries.of lo hw1)) hsz).mono ?_
  rintro e w2 ⟨rfl, hb⟩
  have hw2 : Below w.heap.size w w2 := hw1.trans (hb.mono hw1.size)
  have a2 := cell_carry a0 (Carries.of 0 hb)
  have a3 := cell_carry a1 (Carries.of 0 hb)
  have z2 : w.heap.size < w2.heap.size := by have := hb.size; omega
  clear hb a0 a1
  cases hg : markB n s with
  | false =>
    have hcf : seqOk n s l = false := by unfold seqOk; rw [HG.out, hg]; rfl
    have k := HR.out
    rw [hcf, if_neg (by simp)] at k
    simp only [Prod.mk.injEq] at k
    obtain ⟨rfl, rfl, rfl⟩ := k
    clear hg hcf
    go_wp2_with fail
    go_ret3
    exact ⟨rfl, hw2⟩
  | true =>
  have HM := Lib.hid hg; clear hg
  by_cases h200 : l.length ≤ 200
  case neg =>
    have hcf : seqOk n s l = false := by unfold seqOk; rw [HG.out, HM.out, decide_eq_false h200]; rfl
    have k := HR.out
    rw [hcf, if_neg (by simp)] at k
    simp only [Prod.mk.injEq] at k
    obtain ⟨rfl, rfl, rfl⟩ := k
    clear hcf
    go_wp2_with fail
    go_ret3
    exact ⟨rfl, hw2⟩
  have hcf : seqOk n s l = true := by unfold seqOk; rw [HG.out, HM.out, decide_eq_true h200]; rfl
  have k := HR.out
  rw [hcf, if_pos rfl] at k
  have HK := Lib.hid k
  clear hcf k HR
  go_wp2_with fail
  go_loopw [1, 29] (fun sv i wr => ∃ (k : Nat) (sk : ByteArray), k ≤ l.length ∧ i = .int .i64 k ∧ sv = .string sk ∧ Hid (runSeq n (l.drop k) sk k = (rs, rk, rb)) ∧ Hid (markB n sk = true) ∧ Below w.heap.size w wr ∧ wr.cell? ⟨w.heap.size, 0, none⟩ = some (.int .i64 p) ∧ wr.cell? ⟨w.heap.size, 1, none⟩ = some (.slice ao m cap)) (fun _ i _ => l.length - (intOf i).toNat)
  case atStart => exact ⟨0, s, Nat.zero_le _, rfl, rfl, HK.out, HM, hw2, a2, a3⟩
  case round =>
    obtain ⟨k, sk, hk, rfl, rfl, hrun, hmk, hb1, b0, b1⟩ := hrel
    clear a2 a3 z1 z2 hw1 hw2
    by_cases hlt : k < l.length
    · rcases HF.out with rfl | ⟨b, off, rfl, hlo, hcell⟩
      · simp at hlt
      have c1 := Carries.of lo' hb1 _ _ hlo (hcell k hlt)
      obtain ⟨y, hy⟩ : ∃ y, y = l.getD k 0 := ⟨_, rfl⟩
      rw [← hy] at c1
      have HY := Lib.hid hy; clear hy hcell
      have hsk : sk.size ≤ 1048576 := by have := mark_small HG.out hmk.out; omega
      go_wp2_with fail
      refine (specFire_any _ n sk y _ lo (HV.out.keep (Carries.of lo hb1)) HS.out hsk).mono ?_
      rintro e w3 ⟨rfl, hb⟩
      have hw3 : Below w.heap.size w w3 := hb1.trans (hb.mono hb1.size)
      have b2 := cell_carry b0 (Carries.of 0 hb)
      have b3 := cell_carry b1 (Carries.of 0 hb)
      clear hb b0 b1 hsk
      cases hd : fireOk n sk y with
      | true =>
        have h1 := hrun.out
        rw [run_step hlt (by rw [← HY.out]; exact hd), ← HY.out] at h1
        have h2 := Lib.hid (fired_mark hd)
        have H1 := Lib.hid h1
        clear hd h1
        go_wp2_with fail
        go_roundw
        case rel => exact ⟨k + 1, _, by omega, by go_num, rfl, H1, h2, hw3, b2, b3⟩
        case measure => simp [intOf]; omega
      | false =>
        have h1 := hrun.out
        rw [run_stop hlt (by rw [← HY.out]; exact hd)] at h1
        simp only [Prod.mk.injEq] at h1
        obtain ⟨rfl, rfl, rfl⟩ := h1
        clear hd
        go_wp2_with fail
        go_ret3
        exact ⟨rfl, hw3⟩
    · have hkk : k = l.length := by omega
      subst hkk
      have h1 := hrun.out
      rw [run_end] at h1
      simp only [Prod.mk.injEq] at h1
      obtain ⟨rfl, rfl, rfl⟩ := h1
      go_wp2_with fail
      go_ret3
      exact ⟨rfl, hb1⟩

end Go.Proofs.Ytkkfglolameogaa
