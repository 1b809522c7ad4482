/- FIRE SEQUENCES: the plain part, and the model's walk.
   WALK: FireSequence of the program.
   WALKS: l1Enabled, Enabled of the model. -/
import Derived.Test.YtigkgfdnnfmmmaaVIfire
import Derived.Test.YtigkgfdnnfmmmaaVNeta
import Derived.Test.YtigkgfdnnfmmmaaVWrm
import Derived.Test.YtigkgfdnnfmmmaaVOwn
import Derived.Lib.BufferOwn
import Derived.Lib.SmallJoins
namespace Go.Proofs.Ytigkgfdnnfmmmaa
open Go.RowKit

/-- firing in order -/
def runSeq (n : NetD) : List Int → ByteArray → Nat → ByteArray × Nat × Bool
  | [], s, k => (s, k, true)
  | t :: l, s, k => if fireOk n s t = true then runSeq n l (bstr (fireS n s t)) (k + 1) else (s, k, false)
def seqOk (n : NetD) (s : ByteArray) (l : List Int) : Bool := goodN n && (markB n s && decide (l.length ≤ 200))
def seqR (n : NetD) (s : ByteArray) (l : List Int) : ByteArray × Nat × Bool := if seqOk n s l = true then runSeq n l s 0 else (bstr [], 0, false)

theorem drop_getD {l : List Int} {k : Nat} (hk : k < l.length) : l.drop k = l.getD k 0 :: l.drop (k + 1) := by
  rw [List.drop_eq_getElem_cons hk, getD_eq hk]
theorem run_step {n : NetD} {l : List Int} {s : ByteArray} {k : Nat} (hk : k < l.length) (h : fireOk n s (l.getD k 0) = true) : runSeq n (l.drop k) s k = runSeq n (l.drop (k + 1)) (bstr (fireS n s (l.getD k 0))) (k + 1) := by
  rw [drop_getD hk, runSeq, if_pos h]
theorem run_stop {n : NetD} {l : List Int} {s : ByteArray} {k : Nat} (hk : k < l.length) (h : fireOk n s (l.getD k 0) = false) : runSeq n (l.drop k) s k = (s, k, false) := by
  rw [drop_getD hk, runSeq, if_neg (by rw [h]; simp)]
theorem run_end {n : NetD} {l : List Int} {s : ByteArray} : runSeq n (l.drop l.length) s l.length = (s, l.length, true) := by
  rw [List.drop_length, runSeq]

theorem dig_mark {n : NetD} {bs : List UInt8} (h : Dig bs) (hl : (bs.length : Int) = n.places) : markB n (bstr bs) = true := by
  unfold markB digB
  rw [bstr_size, decide_eq_true hl, Bool.and_true, decide_eq_true_eq]
  intro i hi
  have hs : i < (bstr bs).size := by rw [bstr_size]; exact hi
  rw [get!_eq hs, ← byte_at hs, bytes_bstr]
  rcases h i hi with c | c
  · left; rw [c]; rfl
  · right; rw [c]; rfl

theorem fired_mark {n : NetD} {s : ByteArray} {t : Int} (h : fireOk n s t = true) : markB n (bstr (fireS n s t)) = true := by
  have h' := h
  unfold fireOk at h'
  simp only [Bool.and_eq_true] at h'
  obtain ⟨hc, hp⟩ := h'
  have hc' := hc
  unfold canB at hc'
  simp only [Bool.and_eq_true] at hc'
  obtain ⟨hg, hm, ht, _⟩ := hc'
  have ht3 : 0 ≤ t ∧ t < n.ts.length := of_decide_eq_true ht
  obtain ⟨i1, i2, _, _⟩ := good_tr hg (t := t.toNat) (by omega)
  unfold fireS fired
  rw [if_pos hc, if_pos hp]
  refine dig_mark ?_ ?_
  · exact ((mark_dig hm).put (Or.inl rfl) i1.nonneg).put (Or.inr rfl) i2.nonneg
  · rw [putAll_length]; unfold restB; rw [putAll_length, bytes_length]; exact mark_size hm
theorem mark_small {n : NetD} {s : ByteArray} (hg : goodN n = true) (hm : markB n s = true) : s.size ≤ 30 := by
  have := mark_size hm
  have := (goodN_parts hg).2.1
  omega

end Go.Proofs.Ytigkgfdnnfmmmaa

namespace Go.Proofs.Ytigkgfdnnfmmmaa
open Go.RowKit

theorem take_pad {s : ByteArray} {k : Nat} (h : k = s.size) : bstr ((pad (bytes s)).take k) = s := by
  subst h
  unfold pad
  rw [← bytes_length, List.take_left']
  · exact bstr_bytes s
  · rfl

/-- behind a region: a block holds a marking; another does still; two cells are as they were -/
def TwoArrB (w : World) (c0 c1 : Addr) (y0 y1 : Value) (b9 : Nat) (xs ys : List UInt8) (mk : Value → Act) (e : Exit) (a' : Act) (w' : World) : Prop :=
  e = .normal ∧ ∃ b : Nat, a' = mk (.pointer (some ⟨b, 0, none⟩)) ∧ ArrAt w' b xs ∧ ArrAt w' b9 ys ∧ Below w.heap.size w w' ∧ w'.cell? c0 = some y0 ∧ w'.cell? c1 = some y1

end Go.Proofs.Ytigkgfdnnfmmmaa

namespace Go.Proofs.Ytigkgfdnnfmmmaa
open Go.RowKit

theorem enL_small {n : NetD} {s : ByteArray} (hs : SmallTrs n.ts) : (enL n s).length ≤ 1048576 := by
  unfold enL
  split
  · exact Nat.le_trans (enTo_length _ _) hs.1
  · simp

/-- a call returns these ints in blocks of its own, and this bool -/
def RetEn (w : World) (l : List Int) (b : Bool) (e : Ending) (w' : World) : Prop := ∃ v, e = .returned (.tuple #[v, .bool b]) ∧ IntsAt w.heap.size w' v l ∧ Below w.heap.size w w'

/-- the same, and they may be written -/
def RetEnO (w : World) (l : List Int) (b : Bool) (e : Ending) (w' : World) : Prop := ∃ v, e = .returned (.tuple #[v, .bool b]) ∧ IntsOw w.heap.size w' v l ∧ Below w.heap.size w w'

theorem ready_pad {n : NetD} {s : ByteArray} (hg : goodN n = true) (hm : markB n s = true) {t : Nat} (ht : t < n.ts.length) :
    (putAll 49 (pad (bytes s)) (n.ts.getD t ([], [])).1 == pad (bytes s)) = readyOf n s t := by
  obtain ⟨i1, _, _, _⟩ := good_tr hg ht
  rw [← mark_size hm] at i1
  have hl := bytes_length s
  have b1 : ∀ p ∈ (n.ts.getD t ([], [])).1, 0 ≤ p ∧ p < (bytes s).length := fun p hp => ⟨i1.nonneg p hp, by rw [hl]; exact i1.lt p hp⟩
  have h30 : (bytes s).length ≤ 30 := by
    have := mark_size hm
    have := (goodN_parts hg).2.1
    rw [hl]; omega
  rw [putAll_same (fun p hp => ⟨(b1 p hp).1, by have := b1 p hp; rw [pad_length h30]; omega⟩)]
  unfold readyOf readyB
  rw [all_decide]
  exact decide_eq_decide.2 ⟨fun h p hp => by have := h p hp; rwa [pad_getD (by have := b1 p hp; omega)] at this, fun h p hp => by rw [pad_getD (by have := b1 p hp; omega)]; exact h p hp⟩

theorem en_no {n : NetD} {s : ByteArray} (h : enB n s = false) : enL n s = [] := by unfold enL; rw [h]; rfl
theorem en_yes {n : NetD} {s : ByteArray} (h : enB n s = true) : enL n s = enTo (readyOf n s) n.ts.length := by unfold enL; rw [h]; rfl

set_option maxRecDepth 100000 in
set_option maxHeartbeats 1000000 in
theorem specEnabled_any (v : Value) (n : NetD) (s : ByteArray) (w : World) (lo : Nat) (hv : NetAt lo w v n) (hs : SmallTrs n.ts) (hsz : s.size ≤ 1048576) :
    Calls Try.prog 39 #[v, .string s] w (RetEn w (enL n s) (enB n s)) := by
  generalize hFL : enL n s = L
  generalize hFB : enB n s = B
  have HFL := Lib.hid hFL; clear hFL
  have HFB := Lib.hid hFB; clear hFB
  have hv' := hv
  obtain ⟨hp0, hp1, q, rfl, ht⟩ := hv'
  obtain ⟨ao, cap, rfl, hc, hz⟩ := ht
  obtain ⟨p, hp⟩ : ∃ p, p = n.places := ⟨_, rfl⟩
  obtain ⟨m, hm⟩ : ∃ m, m = n.ts.length := ⟨_, rfl⟩
  rw [← hp, ← hm] at hv ⊢
  have Hm := Lib.hid hm
  clear hz hc hp0 hp1 hp hm
  have HV := Lib.hid hv; clear hv
  have HS := Lib.hid hs; clear hs
  go_enter Try.func39, Try.ntmps39
  go_wp2_with fail
  refine (l1Good_any _ n _ lo (HV.out.keep ?_) HS.out).mono ?_
  · (repeat' (first | (with_reducible exact Carries.refl _ _) | (with_reducible assumption) | (with_reducible refine Carries.alloc ?_ _) | (with_reducible refine Carries.drew ?_) | (with_reducible refine Carries.drewN ?_ _) | (with_reducible refine Carries.set ?_ ?_ _) | go_size))
  rintro e w1 ⟨rfl, hb⟩
  have hw1 : Below w.heap.size w w1 := by
    refine Below.trans ?_ (hb.mono ?_)
    · (repeat' (first | (with_reducible exact Below.refl _ _) | (with_reducible assumption) | (with_reducible refine Below.alloc ?_ ?_ _) | (with_reducible refine Below.drew ?_) | (with_reducible refine below_drewN ?_ _) | (with_reducible refine Below.setCell ?_ ?_ _) | go_size))
    · simp
  have a0 : w1.cell? ⟨w.heap.size, 0, none⟩ = some (.int .i64 p) := cell_carry (by simp) (Carries.of 0 hb)
  have a1 : w1.cell? ⟨w.heap.size, 1, none⟩ = some (.slice ao m cap) := cell_carry (by simp) (Carries.of 0 hb)
  clear hb
  cases hg : goodN n with
  | false =>
    have hcf : enB n s = false := by unfold enB; rw [hg]; rfl
    have k1 := en_no hcf
    rw [HFL.out] at k1
    rw [HFB.out] at hcf
    subst k1; subst hcf
    clear hg
    go_wp2_with fail
    go_ret2
    exact ⟨_, rfl, ints_nil _ _, hw1⟩
  | true =>
  have HG := Lib.hid hg; clear hg
  go_wp2_with fail
  refine (l1Mark_any _ n s _ lo (HV.out.keep (Carries.of lo hw1)) hsz).mono ?_
  rintro e w2 ⟨rfl, hb⟩
  have hw2 : Below w.heap.size w w2 := hw1.trans (hb.mono hw1.size)
  have a2 := cell_carry a0 (Carries.of 0 hb)
  have a3 := cell_carry a1 (Carries.of 0 hb)
  clear hb a0 a1
  cases hg : markB n s with
  | false =>
    have hcf : enB n s = false := by unfold enB; rw [HG.out, hg]; rfl
    have k1 := en_no hcf
    rw [HFL.out] at k1
    rw [HFB.out] at hcf
    subst k1; subst hcf
    clear hg
    go_wp2_with fail
    go_ret2
    exact ⟨_, rfl, ints_nil _ _, hw2⟩
  | true =>
  have hcf : enB n s = true := by unfold enB; rw [HG.out, hg]; rfl
  have k1 := en_yes hcf
  rw [HFL.out] at k1
  rw [HFB.out] at hcf
  subst hcf
  have HK := Lib.hid k1; clear k1
  have HM := Lib.hid hg; clear hg
  go_wp2_with fail
  refine (l1Enabled_any _ n s _ lo (HV.out.keep (Carries.of lo hw2)) HS.out (fun t ht => by rw [mark_size HM.out]; exact (good_tr HG.out ht).1) hsz).mono ?_
  rintro e w3 ⟨v3, rfl, hown, hb⟩
  have hw3 : Below w.heap.size w w3 := hw2.trans (hb.mono hw2.size)
  rw [← HK.out] at hown
  have hi := (ints_of_owns hown).low (lo' := w.heap.size) hw2.size
  have HI := Lib.hid hi; clear hi hown hb
  go_wp2_with fail
  go_ret2
  exact ⟨_, rfl, HI.out, hw3⟩

set_option maxRecDepth 100000 in
set_option maxHeartbeats 2000000 in
theorem Enabled_any (v : Value) (n : NetD) (s : ByteArray) (w : World) (lo : Nat) (hv : NetAt lo w v n) (hs : SmallTrs n.ts) (hsz : s.size ≤ 1048576) :
    Calls Try.prog 40 #[v, .string s] w (RetEnO w (enL n s) (enB n s)) := by
  generalize hFL : enL n s = L
  generalize hFB : enB n s = B
  have HFL := Lib.hid hFL; clear hFL
  have HFB := Lib.hid hFB; clear hFB
  have hv' := hv
  obtain ⟨hp0, hp1, q, rfl, ht⟩ := hv'
  obtain ⟨ao, cap, rfl, hc, hz⟩ := ht
  obtain ⟨p, hp⟩ : ∃ p, p = n.places := ⟨_, rfl⟩
  obtain ⟨ts, hts⟩ : ∃ ts, ts = n.ts := ⟨_, rfl⟩
  have hs0 := hs
  rw [← hp, ← hts] at hv ⊢
  rw [← hts] at hs hz hc
  have HPl := Lib.hid hp; clear hp hp0 hp1
  have HT := Lib.hid hts; clear hts
  have HV := Lib.hid hv; clear hv
  have HS := Lib.hid hs
  have hmm := hs.1
  have HS0 := Lib.hid hs0; clear hs0 hs
  have HF := Lib.hid hz; clear hz
  go_enter Try.func40, Try.ntmps40
  go_wp2_with fail
  refine (IsValidMarking_any _ n s _ lo (HV.out.keep ?_) HS0.out hsz).mono ?_
  · (repeat' (first | (with_reducible exact Carries.refl _ _) | (with_reducible assumption) | (with_reducible refine Carries.alloc ?_ _) | (with_reducible refine Carries.drew ?_) | (with_reducible refine Carries.drewN ?_ _) | (with_reducible refine Carries.set ?_ ?_ _) | go_size))
  rintro e w1 ⟨rfl, hb⟩
  have hw1 : Below w.heap.size w w1 := by
    refine Below.trans ?_ (hb.mono ?_)
    · (repeat' (first | (with_reducible exact Below.refl _ _) | (with_reducible assumption) | (with_reducible refine Below.alloc ?_ ?_ _) | (with_reducible refine Below.drew ?_) | (with_reducible refine below_drewN ?_ _) | (with_reducible refine Below.setCell ?_ ?_ _) | go_size))
    · simp
  have a0 : w1.cell? ⟨w.heap.size, 0, none⟩ = some (.int .i64 p) := cell_carry (by simp) (Carries.of 0 hb)
  have a1 : w1.cell? ⟨w.heap.size, 1, none⟩ = some (.slice ao ts.length cap) := cell_carry (by simp) (Carries.of 0 hb)
  clear hb
  cases hg : (goodN n && markB n s) with
  | false =>
    have hcf : enB n s = false := hg
    have k1 := en_no hcf
    rw [HFL.out] at k1
    rw [HFB.out] at hcf
    subst k1; subst hcf
    clear hg
    go_wp2_with fail
    go_ret2
    exact ⟨_, rfl, ow_nil _ _, hw1⟩
  | true =>
  have hcf : enB n s = true := hg
  have k1 := en_yes hcf
  rw [HFL.out] at k1
  rw [HFB.out] at hcf
  subst hcf
  have HK := Lib.hid k1; clear k1
  have hgm : goodN n = true ∧ markB n s = true := by simpa using hg
  have HG := Lib.hid hgm.1
  have HM := Lib.hid hgm.2
  clear hg hgm
  have hsp : s.size ≤ 30 := by
    have := mark_size HM.out
    have := (goodN_parts HG.out).2.1
    omega
  obtain ⟨f, hf⟩ : ∃ f, f = readyOf n s := ⟨_, rfl⟩
  have k2 := HK.out
  rw [← hf, ← HT.out] at k2
  have HK2 := Lib.hid k2
  have HFN := Lib.hid hf
  clear k2 hf HK
  go_wp2_with fail
  refine (readMarking_any s _ hsp).mono ?_
  rintro e w2 ⟨rfl, hb⟩
  have hw2 : Below w.heap.size w w2 := hw1.trans (hb.mono hw1.size)
  have a2 := cell_carry a0 (Carries.of 0 hb)
  have a3 := cell_carry a1 (Carries.of 0 hb)
  clear hb a0 a1
  have lp : (pad (bytes s)).length = 30 := pad_length (by rw [bytes_length]; exact hsp)
  have HN := Lib.hid (ArrAt.new w2 zeros_length)
  have hS : Hid (ArrAt ((w2.alloc (.cells (arr zeros).toArray 111)).setRow w2.heap.size (arr (pad (bytes s))).toArray) w2.heap.size (pad (bytes s))) := ⟨setRow_heap _ _ _ _ _ _ HN.out.1, lp⟩
  have hbS : Hid (Below w2.heap.size w2 ((w2.alloc (.cells (arr zeros).toArray 111)).setRow w2.heap.size (arr (pad (bytes s))).toArray)) := below_setRow ((Below.refl _ _).alloc (Nat.le_refl _) _) (Nat.le_refl _) _
  go_wp2_with (refine wpList_store_row rfl 111 _ _ rfl w2.heap.size _ rfl rfl _ _ HN.out.1 (infoArr lp) (by simp [arr_length, lp, zeros_length]) (arr_all _) ?_; change wpList _ _ _ _ _ ((w2.alloc (.cells (arr zeros).toArray 111)).setRow w2.heap.size (arr (pad (bytes s))).toArray); generalize (w2.alloc (.cells (arr zeros).toArray 111)).setRow w2.heap.size (arr (pad (bytes s))).toArray = W at hS hbS ⊢; have b0 := cell_carry a2 (Carries.of 0 hbS.out); have b1 := cell_carry a3 (Carries.of 0 hbS.out))
  have hwW : Below w.heap.size w W := hw2.trans (hbS.out.mono hw2.size)
  obtain ⟨b9, hb9⟩ : ∃ b9, b9 = w2.heap.size := ⟨_, rfl⟩
  rw [← hb9] at hS ⊢
  have zW := hwW.size
  have HRP : Hid (∀ t, t < ts.length → (putAll 49 (pad (bytes s)) (ts.getD t ([], [])).1 == pad (bytes s)) = f t) := by
    rw [HT.out, HFN.out]
    exact fun t ht => ready_pad HG.out HM.out ht
  have HIN : Hid (∀ t, t < ts.length → InArr (ts.getD t ([], [])).1) := by
    rw [HT.out]
    exact fun t ht => (goodN_in HG.out ht).1
  have HVW := Lib.hid (HV.out.keep (Carries.of lo hwW))
  have HFW : Hid (ts = [] ∨ ∃ b off, ao = some ⟨b, off, none⟩ ∧ lo ≤ b ∧ ∀ i, i < ts.length → ∃ v0 v1, W.cell? ⟨b, off + i * 2, none⟩ = some v0 ∧ W.cell? ⟨b, off + i * 2 + 1, none⟩ = some v1 ∧ TrAt lo W v0 v1 (ts.getD i ([], []))) := by
    rcases HF.out with h | ⟨b, off, h1, h2, h3⟩
    · exact Or.inl h
    · refine Or.inr ⟨b, off, h1, h2, fun i hi => ?_⟩
      obtain ⟨v0, v1, c0, c1, h⟩ := h3 i hi
      exact ⟨v0, v1, Carries.of lo hwW _ _ h2 c0, Carries.of lo hwW _ _ h2 c1, h.keep (Carries.of lo hwW)⟩
  have u1 := Try.underlying111
  obtain ⟨PD, hPD⟩ : ∃ PD, PD = pad (bytes s) := ⟨_, rfl⟩
  rw [← hPD] at lp hS HRP
  clear hPD HF HV HN hbS a2 a3 hw1 hw2 hb9 HS0 HPl HM HG HFB HFL HFN hsp
  go_loopw [7, 19] (fun sv i wr => ∃ (k : Nat), k ≤ ts.length ∧ i = .int .i64 k ∧ wr.ownsRow W.heap.size 3 1 sv (enTo f k).length (intCells (enTo f k)) ∧ Below W.heap.size W wr) (fun _ i _ => ts.length - (intOf i).toNat)
  case atStart => exact ⟨0, Nat.zero_le _, rfl, World.ownsRow_nil _ _ _ _, Below.refl _ _⟩
  case round =>
    obtain ⟨k, hk, rfl, hown, hb1⟩ := hrel
    have zb := hb1.size
    have HA := Lib.hid (hS.out.after hb1)
    have HO := Lib.hid hown; clear hown
    have hle := enTo_length f k
    by_cases hlt : k < ts.length
    · rcases HFW.out with rfl | ⟨b, off, rfl, hlo, hcell⟩
      · simp at hlt
      obtain ⟨x0, x1, q0, q1, hx⟩ := hcell k hlt
      obtain ⟨X, hX⟩ : ∃ X, X = ts.getD k ([], []) := ⟨_, rfl⟩
      have sx := HS.out.2 k hlt
      have ix := HIN.out k hlt
      have rp := HRP.out k hlt
      rw [← hX] at hx sx ix rp
      obtain ⟨s1, s2⟩ := sx
      have IX := Lib.hid ix; clear ix hX hcell
      obtain ⟨⟨xa0, xk0, rfl, _, _⟩, ⟨xa1, xk1, rfl, _, _⟩⟩ := id hx
      have HX := Lib.hid (hx.keep (Carries.of lo hb1)); clear hx
      have q2 := Carries.of lo hb1 _ _ hlo q0
      have q3 := Carries.of lo hb1 _ _ hlo q1
      clear q0 q1
      have RP := Lib.hid rp; clear rp
      have g2 : (Try.prog.info? 111).map (·.size) = some (arr PD).length := by rw [arr_length, lp]; exact Try.infoArr
      have hal : Below wr.heap.size wr (wr.alloc (.cells #[.slice xa0 X.1.length xk0, .slice xa1 X.2.length xk1] 116)) := (Below.refl _ _).alloc (Nat.le_refl _) _
      have HAL := Lib.hid (HA.out.after hal)
      have hwa : Hid (Below W.heap.size W (wr.alloc (.cells #[.slice xa0 X.1.length xk0, .slice xa1 X.2.length xk1] 116))) := hb1.trans (hal.mono zb)
      have HOA := Lib.hid (owns_after HO.out hal)
      have HXA := Lib.hid (HX.out.keep (Carries.of lo hal))
      clear hal
      go_wp2_with (refine wpList_load_row rfl 111 _ rfl b9 rfl _ _ _ _ HAL.out.1 u1 rfl (infoArr lp) ?_)
      change Calls _ _ _ (wr.alloc (.cells #[.slice xa0 X.1.length xk0, .slice xa1 X.2.length xk1] 116)) _
      generalize wr.alloc (.cells #[.slice xa0 X.1.length xk0, .slice xa1 X.2.length xk1] 116) = wa at HAL hwa HOA HXA ⊢
      refine (isEnabled_any PD lp _ _ X _ lo HXA.out s1 IX.out).mono ?_
      rintro e w3 ⟨rfl, hb⟩
      rw [RP.out]
      have hw3 : Below W.heap.size W w3 := hwa.out.trans (hb.mono hwa.out.size)
      have z3 := hw3.size
      have HO3 := Lib.hid (owns_after HOA.out hb)
      clear hb q2 q3
      cases hd : f k with
      | false =>
        have he := enTo_false hd
        have HO4 := Lib.hid (show w3.ownsRow W.heap.size 3 1 _ (enTo f (k + 1)).length (intCells (enTo f (k + 1))) by rw [he]; exact HO3.out)
        clear he hd
        go_wp2_with fail
        go_roundw
        case rel => exact ⟨k + 1, by omega, by go_num, HO4.out, hw3⟩
        case measure => simp [intOf]; omega
      | true =>
        have he := Lib.hid (enTo_true hd)
        clear hd
        go_wp2_with (refine wpList_append_ints rfl (.tmp 27) (.tmp 29) rfl W.heap.size 0 _ _ _ rfl (World.ownsRow.alloc HO3.out _) _ [(k : Int)] rfl (ints_one _ _ _) (by simp; omega) (by simp; omega) ?_; intro v' w' hown' hgrow)
        have hw4 : Below W.heap.size W w' := (hw3.alloc z3 _).grown hgrow (by simp; omega) (fun g hg => (HO3.out.lt g hg).1)
        have HO4 := Lib.hid (show w'.ownsRow W.heap.size 3 1 v' (enTo f (k + 1)).length (intCells (enTo f (k + 1))) by rw [he.out, List.length_append, intCells_append]; exact hown')
        go_wp2_with fail
        go_roundw
        case rel => exact ⟨k + 1, by omega, by go_num, HO4.out, hw4⟩
        case measure => simp [intOf]; omega
    · have hkk : k = ts.length := by omega
      have HO2 : Hid (IntsOw w.heap.size wr u7 L) := by
        have h := ow_of_owns (Go.Joins.ownsRow_le HO.out zW)
        rw [hkk, ← HK2.out] at h
        exact h
      subst hkk
      go_wp2_with fail
      go_ret2
      exact ⟨_, rfl, HO2.out, hwW.trans (hb1.mono zW)⟩

end Go.Proofs.Ytigkgfdnnfmmmaa
