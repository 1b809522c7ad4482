/- AIDS to the law: equality, marks of unfoldings of no event, as calls of the laws. -/
import Derived.Test.YtnmoocgocnjdjaaVUfs
import Derived.Test.YtnmoocgocnjdjaaVNetc
import Derived.Test.YtnmoocgocnjdjaaVMk
namespace Go.Proofs.Ytnmoocgocnjdjaa
open Go.RowKit

theorem Marks.cell' {lo hi : Nat} {w w' : World} {a : Addr} {v : Value} (h : Marks lo hi w w') (ha : a.block < lo ∨ hi ≤ a.block) (hc : w.cell? a = some v) : w'.cell? a = some v :=
  (World.cell?_of_block (h.block a.block ha)).trans hc
theorem Marks.stir' {lo hi : Nat} {w w' : World} (h : Marks lo hi w w') : Stir lo hi w w' := ⟨h.os, h.tape, h.output, by rw [h.size]; exact Nat.le_refl _, fun b _ hc => h.block b hc⟩
theorem unf_fresh {lo : Nat} {w : World} {v : Value} {cs : List Cnd} (h : CndsAt lo w v cs) : UnfAt lo w (.agg #[v, .slice none 0 0]) ⟨cs, []⟩ :=
  ⟨_, _, rfl, h, none, 0, rfl, Nat.le_refl _, Or.inl rfl⟩

theorem eqUnf_two (a a' : Option Addr) (c c' n : Nat) (L : List Cnd) (w : World) (lo lo' : Nat) (hn : n = L.length) (hv : CndsAt lo w (.slice a n c) L) (hv' : CndsAt lo' w (.slice a' n c') L) (hs : n ≤ 1048576) :
    Calls Try.prog 15 #[.agg #[.slice a n c, .slice none 0 0], .agg #[.slice a' n c', .slice none 0 0]] w (RetB w true) := by
  have h := eqUnf_fresh (.agg #[.slice a n c, .slice none 0 0]) (.agg #[.slice a' n c', .slice none 0 0]) ⟨L, []⟩ ⟨L, []⟩ w lo lo' (unf_fresh hv) (unf_fresh hv') (by simp only; omega) (by simp only; omega) rfl rfl
  have e : decide ((⟨L, []⟩ : UnfD).cs = (⟨L, []⟩ : UnfD).cs) = true := decide_eq_true rfl
  rw [e] at h
  exact h

theorem CndsAt.bound {lo : Nat} {w : World} {v : Value} {ls : List Cnd} (h : CndsAt lo w v ls) : ∀ b off len cap, v = .slice (some ⟨b, off, none⟩) len cap → 0 < len → b < w.heap.size := by
  intro b off len cap hv hl
  obtain ⟨ao, cp, rfl, _, hz⟩ := h
  injection hv with h1 h2 h3
  rcases hz with hz | ⟨b', off', ha, hlo, hcell⟩
  · omega
  · rw [ha] at h1
    injection h1 with h1
    injection h1 with h1 h4 h5
    have := cell_old (hcell 0 (by omega)).1
    simp at this
    omega
/-- conditions whose block lies before hi -/
def CndsIn (lo hi : Nat) (w : World) (v : Value) (ls : List Cnd) : Prop := CndsAt lo w v ls ∧ ∀ b off len cap, v = .slice (some ⟨b, off, none⟩) len cap → 0 < len → b < hi
theorem CndsIn.stir {lo hi l k : Nat} {w w' : World} {v : Value} {ls : List Cnd} (h : CndsIn lo hi w v ls) (hm : Stir l k w w') (hl : hi ≤ l) : CndsIn lo hi w' v ls := by
  obtain ⟨⟨ao, cap, rfl, hc, hz⟩, hB⟩ := h
  refine ⟨⟨ao, cap, rfl, hc, ?_⟩, hB⟩
  rcases hz with hz | ⟨b, off, rfl, hlo, hcell⟩
  · exact Or.inl hz
  · by_cases h0 : ls.length = 0
    · exact Or.inl h0
    · have hbl := hB b off _ _ rfl (by omega)
      exact Or.inr ⟨b, off, rfl, hlo, fun i hi => ⟨hm.cell (Or.inl (by simp; omega)) (hcell i hi).1, hm.cell (Or.inl (by simp; omega)) (hcell i hi).2⟩⟩
theorem CndsIn.after {lo hi : Nat} {w w' : World} {v : Value} {ls : List Cnd} (h : CndsIn lo hi w v ls) (hb : Below w.heap.size w w') : CndsIn lo hi w' v ls := ⟨h.1.keep (Carries.of lo hb), h.2⟩
/-- .. which may be written -/
def CndsOw (lo hi : Nat) (w : World) (v : Value) (ls : List Cnd) : Prop := CndsAt lo w v ls ∧ PairBox lo hi w v ls.length
theorem CndsOw.after {lo hi : Nat} {w w' : World} {v : Value} {ls : List Cnd} (h : CndsOw lo hi w v ls) (hb : Below w.heap.size w w') : CndsOw lo hi w' v ls := ⟨h.1.keep (Carries.of lo hb), h.2.after hb⟩
theorem CndsOw.stir {lo hi l k : Nat} {w w' : World} {v : Value} {ls : List Cnd} (h : CndsOw lo hi w v ls) (hm : Stir l k w w') (hl : k ≤ lo) : CndsOw lo hi w' v ls := by
  obtain ⟨⟨ao, cap, rfl, hc, hz⟩, hB⟩ := h
  refine ⟨⟨ao, cap, rfl, hc, ?_⟩, hB.stir hm (Or.inr hl)⟩
  rcases hz with hz | ⟨b, off, rfl, hlo, hcell⟩
  · exact Or.inl hz
  · exact Or.inr ⟨b, off, rfl, hlo, fun i hi => ⟨hm.cell (Or.inr (by simp; omega)) (hcell i hi).1, hm.cell (Or.inr (by simp; omega)) (hcell i hi).2⟩⟩
theorem CndsOw.low {lo lo' hi : Nat} {w : World} {v : Value} {ls : List Cnd} (h : CndsOw lo hi w v ls) (hl : lo' ≤ lo) : CndsOw lo' hi w v ls := ⟨h.1.low hl, h.2.wide hl (Nat.le_refl _)⟩
theorem CRow.ow {B : Nat} {w : World} {v : Value} {ls : List Cnd} (h : CRow B w v ls) : CndsOw B w.heap.size w v ls := ⟨h.at, h.box⟩

set_option maxRecDepth 100000 in
set_option maxHeartbeats 400000 in
theorem markUnf_any (a : Option Addr) (c n : Nat) (L : List Cnd) (w : World) (lo hi : Nat) (hn : n = L.length) (hv : CndsOw lo hi w (.slice a n c) L) (hs : n ≤ 1048576) (hhi : hi ≤ w.heap.size) :
    Calls Try.prog 19 #[.agg #[.slice a n c, .slice none 0 0], .int .i64 1] w (fun e w' => e = .returned (.int .i64 (1 + 2 * (n : Int))) ∧ Stir lo hi w w' ∧ CndsAt lo w' (.slice a n c) (markedCnds 1 n)) := by
  have hcap : n ≤ c := by
    obtain ⟨⟨ao, cap, e, hc, _⟩, _⟩ := hv
    injection e with e1 e2 e3
    omega
  have HV := Lib.hid (show PairBox lo hi w (.slice a n c) n by have := hv.2; rw [← hn] at this; exact this)
  clear hv hn
  go_enter Try.func19, Try.ntmps19
  have HA : Below w.heap.size w (w.alloc (.cells #[.slice a n c, .slice none 0 0] 39)) := (Below.refl _ _).alloc (Nat.le_refl _) _
  have HV1 := Lib.hid (HV.out.after HA)
  go_wp2_with fail
  have x1 : (w.alloc (.cells #[.slice a n c, .slice none 0 0] 39)).cell? ⟨w.heap.size, 1, none⟩ = some (.slice none 0 0) := by simp
  generalize w.alloc (.cells #[.slice a n c, .slice none 0 0] 39) = W at HA HV1 x1 ⊢
  refine (markConditionS_at _ n 1 W lo hi HV1.out ⟨_, _, rfl, hcap⟩ hs (by omega) (by omega)).mono ?_
  rintro e w1 ⟨rfl, hst, hat⟩
  have x1 := hst.cell (Or.inr (by simp; omega)) x1
  have HST := Lib.hid ((Stir.of lo hi HA).trans hst)
  have HAT := Lib.hid hat
  clear hst hat
  go_wp2_with fail
  refine (markEventS_nil _ _ _ _).mono ?_
  rintro e w2 ⟨rfl, hb⟩
  have HST2 := Lib.hid (HST.out.trans (Stir.of lo hi hb))
  have HAT2 := Lib.hid (HAT.out.keep (Carries.of lo hb))
  clear hb
  go_wp2_with fail
  go_ret
  exact ⟨rfl, HST2.out, HAT2.out⟩

set_option maxRecDepth 100000 in
set_option maxHeartbeats 400000 in
theorem heldUnf_any (a : Option Addr) (c n : Nat) (w : World) (lo : Nat) (hv : CndsAt lo w (.slice a n c) (markedCnds 1 n)) (hs : n ≤ 1048576) :
    Calls Try.prog 20 #[.agg #[.slice a n c, .slice none 0 0], .int .i64 1] w (RetV w (.int .i64 (1 + 2 * (n : Int)))) := by
  have HV := Lib.hid hv
  clear hv
  go_enter Try.func20, Try.ntmps20
  have HA : Below w.heap.size w (w.alloc (.cells #[.slice a n c, .slice none 0 0] 39)) := (Below.refl _ _).alloc (Nat.le_refl _) _
  have HV1 := Lib.hid (HV.out.keep (Carries.of lo HA))
  go_wp2_with fail
  have x1 : (w.alloc (.cells #[.slice a n c, .slice none 0 0] 39)).cell? ⟨w.heap.size, 1, none⟩ = some (.slice none 0 0) := by simp
  generalize w.alloc (.cells #[.slice a n c, .slice none 0 0] 39) = W at HA HV1 x1 ⊢
  refine (heldConditionS_any _ n 1 W lo HV1.out hs (by omega) (by omega)).mono ?_
  rintro e w1 ⟨rfl, hb⟩
  have x1 := cell_carry x1 (Carries.of 0 hb)
  have hw1 : Below w.heap.size w w1 := HA.trans (hb.mono HA.size)
  clear hb
  have hq : decide ((1 : Int) + 2 * (n : Int) < 0) = false := by rw [decide_eq_false_iff_not]; omega
  go_wp2_with fail
  refine (heldEventS_nil _ _ _ _).mono ?_
  rintro e w2 ⟨rfl, hb⟩
  have hw2 : Below w.heap.size w w2 := hw1.trans (hb.mono hw1.size)
  clear hb
  go_wp2_with fail
  go_ret
  exact ⟨rfl, hw2⟩

end Go.Proofs.Ytnmoocgocnjdjaa
