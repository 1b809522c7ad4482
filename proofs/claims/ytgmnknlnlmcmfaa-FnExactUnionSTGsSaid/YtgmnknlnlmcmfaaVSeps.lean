/- GRAPHS OF A CALL'S OWN: their parts lie apart; what is written into one is read out of it, and of nothing else. -/
import Derived.Test.YtgmnknlnlmcmfaaVMtext
import Derived.Test.YtgmnknlnlmcmfaaVUne
import Derived.Test.YtgmnknlnlmcmfaaVSep
import Derived.Test.YtgmnknlnlmcmfaaVL2od
namespace Go.Proofs.Ytgmnknlnlmcmfaa
open Go.RowKit

theorem Same.lower {lo lo' : Nat} {w w' : World} (h : Same lo w w') (hl : lo ≤ lo') : Same lo' w w' := ⟨h.1, fun b h1 h2 => h.2 b (by omega) h2⟩
theorem Same.cell {lo : Nat} {w w' : World} {a : Addr} {v : Value} (h : Same lo w w') (ha : lo ≤ a.block) (hc : w.cell? a = some v) : w'.cell? a = some v :=
  (World.cell?_of_block (h.2 a.block ha (cell_old hc))).trans hc
theorem Same.carries {lo : Nat} {w w' : World} (h : Same lo w w') : Carries lo w w' := fun _ _ ha hc => h.cell ha hc
theorem Stir.sameOf {lo hi l : Nat} {w w' : World} (h : Stir lo hi w w') (hl : hi ≤ l) : Same l w w' := ⟨h.size, fun b h1 h2 => h.block b h2 (Or.inr (by omega))⟩
theorem Marks.sameOf {lo hi l : Nat} {w w' : World} (h : Marks lo hi w w') (hl : hi ≤ l) : Same l w w' := ⟨by rw [h.size]; exact Nat.le_refl _, fun b h1 _ => h.block b (Or.inr (by omega))⟩
theorem owns_same {base size n : Nat} {e : TypeId} {v : Value} {xs : List Value} {w w' : World} (h : w.ownsRow base e size v n xs) (hs : Same base w w') : w'.ownsRow base e size v n xs := by
  refine ⟨h.1, ?_⟩
  rcases h.2 with hn | ⟨g, cap, cur, rfl, hb, hg, rest⟩
  · exact Or.inl hn
  · exact Or.inr ⟨g, cap, cur, rfl, hb, (hs.2 g hb (Array.getElem?_eq_some_iff.1 hg).1).trans hg, rest⟩
theorem owns_other {base size n g k : Nat} {e : TypeId} {v : Value} {xs : List Value} {w w' : World} (h : w.ownsRow base e size v n xs) (hs : Stir g k w w') (hne : ∀ b, v.ownBlock = some b → b < g ∨ k ≤ b) : w'.ownsRow base e size v n xs := by
  refine ⟨h.1, ?_⟩
  rcases h.2 with hn | ⟨b, cap, cur, rfl, hb, hg, rest⟩
  · exact Or.inl hn
  · exact Or.inr ⟨b, cap, cur, rfl, hb, (hs.block b (Array.getElem?_eq_some_iff.1 hg).1 (hne b rfl)).trans hg, rest⟩

/-- the one block of an owned row of pairs (where there is none: a block that is none yet) -/
theorem owns_box {hi n : Nat} {e : TypeId} {v : Value} {xs : List Value} {w : World} (h : w.ownsRow hi e 2 v n xs) :
    ∃ g, (∀ b, v.ownBlock = some b → b = g) ∧ ((v.ownBlock = some g ∧ hi ≤ g) ∨ (w.heap.size ≤ g ∧ v.ownBlock = none)) ∧ PairBox g (g + 1) w v n ∧ ∃ ao cap, v = .slice ao n cap ∧ n ≤ cap := by
  have h0 := h
  have hl := h.1
  rcases h.2 with ⟨rfl, hn⟩ | ⟨g, cap, cur, rfl, hb, hg, hnc, _⟩
  · exact ⟨w.heap.size, fun b hb => by simp [Value.ownBlock] at hb, Or.inr ⟨Nat.le_refl _, rfl⟩, ⟨none, 0, by rw [hn], Or.inl hn⟩, none, 0, by rw [hn], Nat.le_of_eq hn⟩
  · refine ⟨g, fun b hb => by simpa [Value.ownBlock] using hb.symm, Or.inl ⟨rfl, hb⟩, ⟨_, _, rfl, Or.inr ⟨g, 0, rfl, Nat.le_refl _, Nat.lt_succ_self _, fun i hi => ⟨?_, ?_⟩⟩⟩, _, _, rfl, hnc⟩
    · rw [Nat.zero_add, h0.cellAt i hi]
      exact ⟨_, List.getElem?_eq_getElem (by rw [hl]; exact hi)⟩
    · exact h0.frozenAt _

theorem PairsAt.far {lo n g k : Nat} {w w' : World} {v : Value} {x y : Nat → Value} (h : PairsAt lo w v n x y) (hs : Stir g k w w') (hne : ∀ b, v.ownBlock = some b → b < g ∨ k ≤ b) : PairsAt lo w' v n x y := by
  obtain ⟨ao, cap, rfl, hc, hz⟩ := h
  refine ⟨ao, cap, rfl, hc, ?_⟩
  rcases hz with hz | ⟨b, off, rfl, hlo, hcell⟩
  · exact Or.inl hz
  · have hb := hne b rfl
    exact Or.inr ⟨b, off, rfl, hlo, fun i hi => ⟨hs.cell hb (hcell i hi).1, hs.cell hb (hcell i hi).2⟩⟩

/-- the lists' blocks of a row of transitions lie before hi -/
def TrsBd (hi : Nat) (w : World) (v : Value) (n : Nat) : Prop := ∀ b off cap, v = .slice (some ⟨b, off, none⟩) n cap → ∀ i, i < n → ∃ a0 n0 k0 a1 n1 k1,
  w.cell? ⟨b, off + i * 2, none⟩ = some (.slice a0 n0 k0) ∧ w.cell? ⟨b, off + i * 2 + 1, none⟩ = some (.slice a1 n1 k1) ∧ Bound hi (.slice a0 n0 k0) ∧ Bound hi (.slice a1 n1 k1)
theorem Bound.wide {h h' : Nat} {v : Value} (hb : Bound h v) (hl : h ≤ h') : Bound h' v := fun b off len cap hv hp => Nat.lt_of_lt_of_le (hb b off len cap hv hp) hl
theorem TrsSep.bd {c : Nat → Nat} {hi : Nat} {w : World} {v : Value} {ts : List Tr} (h : TrsSep c w v ts) (hhi : ∀ i, c i ≤ hi) : TrsBd hi w v ts.length := by
  obtain ⟨hc, ao, cap, rfl, hcap, hz⟩ := h
  intro b off cap' hv i hi'
  simp only [Value.slice.injEq, true_and] at hv
  obtain ⟨rfl, rfl⟩ := hv
  rcases hz with rfl | ⟨b', off', ha, hcell⟩
  · simp at hi'
  · simp only [Option.some.injEq, Addr.mk.injEq, and_true] at ha
    obtain ⟨rfl, rfl⟩ := ha
    obtain ⟨v0, v1, c0, c1, ⟨h0, b0⟩, h1, b1⟩ := hcell i hi'
    obtain ⟨a0, k0, rfl, _, _⟩ := id h0
    obtain ⟨a1, k1, rfl, _, _⟩ := id h1
    exact ⟨_, _, _, _, _, _, c0, c1, b0.wide (hhi _), b1.wide (hhi _)⟩
theorem TrsBd.marks {hi n l k : Nat} {w w' : World} {v : Value} (h : TrsBd hi w v n) (hm : Marks l k w w') : TrsBd hi w' v n := by
  intro b off cap hv i hi'
  obtain ⟨a0, n0, k0, a1, n1, k1, c0, c1, b0, b1⟩ := h b off cap hv i hi'
  exact ⟨a0, n0, k0, a1, n1, k1, hm.slice _ _ _ _ c0, hm.slice _ _ _ _ c1, b0, b1⟩
theorem TrsBd.keep {hi n : Nat} {w w' : World} {v : Value} (h : TrsBd hi w v n) (hm : Carries 0 w w') : TrsBd hi w' v n := by
  intro b off cap hv i hi'
  obtain ⟨a0, n0, k0, a1, n1, k1, c0, c1, b0, b1⟩ := h b off cap hv i hi'
  exact ⟨a0, n0, k0, a1, n1, k1, cell_carry c0 hm, cell_carry c1 hm, b0, b1⟩
theorem IntsAt.far {lo hi g k : Nat} {w w' : World} {v : Value} {zs : List Int} (h : IntsAt lo w v zs) (hB : Bound hi v) (hs : Stir g k w w') (hg : hi ≤ g) : IntsAt lo w' v zs := by
  obtain ⟨ao, cap, rfl, hc, hz⟩ := h
  refine ⟨ao, cap, rfl, hc, ?_⟩
  rcases hz with hz | ⟨b, off, rfl, hlo, hcell⟩
  · exact Or.inl hz
  · exact Or.inr ⟨b, off, rfl, hlo, fun i hi' => hs.cell (Or.inl (by have := hB b off _ _ rfl (by omega); simp; omega)) (hcell i hi')⟩
theorem TrsAt.far {lo hi g k : Nat} {w w' : World} {v : Value} {ts : List Tr} (h : TrsAt lo w v ts) (hd : TrsBd hi w v ts.length) (hB : Bound hi v) (hs : Stir g k w w') (hg : hi ≤ g) : TrsAt lo w' v ts ∧ TrsBd hi w' v ts.length := by
  obtain ⟨ao, cap, rfl, hc, hz⟩ := h
  refine ⟨⟨ao, cap, rfl, hc, ?_⟩, ?_⟩
  · rcases hz with hz | ⟨b, off, rfl, hlo, hcell⟩
    · exact Or.inl hz
    · refine Or.inr ⟨b, off, rfl, hlo, fun i hi' => ?_⟩
      have hb : b < hi := hB b off _ _ rfl (by omega)
      obtain ⟨v0, v1, c0, c1, h0, h1⟩ := hcell i hi'
      obtain ⟨a0, n0, k0, a1, n1, k1, d0, d1, b0, b1⟩ := hd b off _ rfl i hi'
      rw [c0] at d0
      rw [c1] at d1
      injection d0 with d0; injection d1 with d1
      subst d0; subst d1
      exact ⟨_, _, hs.cell (Or.inl (by simp; omega)) c0, hs.cell (Or.inl (by simp; omega)) c1, h0.far b0 hs hg, h1.far b1 hs hg⟩
  · intro b off cap' hv i hi'
    have hb : b < hi := hB b off _ _ hv (by omega)
    obtain ⟨a0, n0, k0, a1, n1, k1, d0, d1, b0, b1⟩ := hd b off _ hv i hi'
    exact ⟨a0, n0, k0, a1, n1, k1, hs.cell (Or.inl (by simp; omega)) d0, hs.cell (Or.inl (by simp; omega)) d1, b0, b1⟩

/-- a graph of a call's own: its blocks lie from B on, before H; its parts lie apart, and may be written -/
def SepStg (B H : Nat) (w : World) (v : Value) (s : StgD) : Prop :=
  ∃ (c : Nat → Nat) (hi : Nat) (vt vs vl : Value), v = .agg #[.int .i64 s.net.places, vt, vs, vl, .string s.start] ∧
    (-9223372036854775808 ≤ s.net.places ∧ s.net.places ≤ 9223372036854775807) ∧ B ≤ c 0 ∧ (∀ i, c i ≤ hi) ∧ hi ≤ H ∧ H ≤ w.heap.size ∧
    TrsSep c w vt s.net.ts ∧ TrsAt B w vt s.net.ts ∧ Bound hi vt ∧
    w.ownsRow hi 118 2 vs s.sigs.length (pairCells (sgX s.sigs) (sgY s.sigs) s.sigs.length) ∧ (∀ g, vs.ownBlock = some g → g < H) ∧
    w.ownsRow hi 113 2 vl s.labs.length (pairCells (lbX s.labs) (lbY s.labs) s.labs.length) ∧ (∀ g, vl.ownBlock = some g → g < H)

theorem TrsSep.same {c : Nat → Nat} {B : Nat} {w w' : World} {v : Value} {ts : List Tr} (h : TrsSep c w v ts) (ha : TrsAt B w v ts) (hB : B ≤ c 0) (hs : Same B w w') : TrsSep c w' v ts := by
  obtain ⟨hc, ao, cap, rfl, hcap, hz⟩ := h
  refine ⟨hc, ao, cap, rfl, hcap, ?_⟩
  obtain ⟨ao', cap', hv, _, hz'⟩ := ha
  simp only [Value.slice.injEq, true_and] at hv
  obtain ⟨rfl, rfl⟩ := hv
  rcases hz with hz | ⟨b, off, rfl, hcell⟩
  · exact Or.inl hz
  · rcases hz' with hz' | ⟨b', off', hbb, hlo, _⟩
    · exact Or.inl hz'
    · simp only [Option.some.injEq, Addr.mk.injEq, and_true] at hbb
      obtain ⟨rfl, rfl⟩ := hbb
      refine Or.inr ⟨_, _, rfl, fun i hi => ?_⟩
      obtain ⟨v0, v1, c0, c1, ⟨h0, b0⟩, h1, b1⟩ := hcell i hi
      have m0 : c 0 ≤ c (2 * i) := mono_le hc (by omega)
      have m1 : c 0 ≤ c (2 * i + 1) := mono_le hc (by omega)
      exact ⟨v0, v1, hs.cell hlo c0, hs.cell hlo c1, ⟨h0.keep (hs.lower (by omega)), b0⟩, h1.keep (hs.lower (by omega)), b1⟩
theorem SepStg.keep {B H : Nat} {w w' : World} {v : Value} {s : StgD} (h : SepStg B H w v s) (hs : Same B w w') : SepStg B H w' v s := by
  obtain ⟨c, hi, vt, vs, vl, hv, hp, hB, hci, hH, hw, hsep, hat, hbd, hos, hs1, hol, hl1⟩ := h
  have hBh : B ≤ hi := Nat.le_trans hB (hci 0)
  exact ⟨c, hi, vt, vs, vl, hv, hp, hB, hci, hH, Nat.le_trans hw hs.1, hsep.same hat hB hs, hat.keep hs.carries, hbd, owns_same hos (hs.lower hBh), hs1, owns_same hol (hs.lower hBh), hl1⟩
theorem SepStg.at {B H : Nat} {w : World} {v : Value} {s : StgD} (h : SepStg B H w v s) : StgAt B w v s := by
  obtain ⟨c, hi, vt, vs, vl, hv, hp, hB, hci, hH, hw, hsep, hat, hbd, hos, hs1, hol, hl1⟩ := h
  have hBh : B ≤ hi := Nat.le_trans hB (hci 0)
  exact ⟨vt, vs, vl, hv, ⟨hp.1, hp.2, _, rfl, hat⟩, PairsAt.low (pairs_of_owns hos) hBh, PairsAt.low (pairs_of_owns hol) hBh⟩

/-- the graph of nothing -/
def zeroS : StgD := ⟨⟨0, []⟩, [], [], ⟨#[]⟩⟩
theorem SepStg.zero (w : World) : SepStg w.heap.size w.heap.size w (.agg #[.int .i64 0, .slice none 0 0, .slice none 0 0, .slice none 0 0, .string ⟨#[]⟩]) zeroS :=
  ⟨fun _ => w.heap.size, w.heap.size, _, _, _, rfl, by decide, Nat.le_refl _, fun _ => Nat.le_refl _, Nat.le_refl _, Nat.le_refl _,
    ⟨fun _ => Nat.le_refl _, none, 0, rfl, Nat.le_refl _, Or.inl rfl⟩, ⟨none, 0, rfl, Nat.le_refl _, Or.inl rfl⟩, fun b off len cap hv hp => (by cases hv), World.ownsRow_nil _ _ _ _, fun g hg => (by cases hg), World.ownsRow_nil _ _ _ _, fun g hg => (by cases hg)⟩
theorem SepStg.wide {B B' H H' : Nat} {w : World} {v : Value} {s : StgD} (h : SepStg B H w v s) (hB : B' ≤ B) (hH : H ≤ H') (hw' : H' ≤ w.heap.size) : SepStg B' H' w v s := by
  obtain ⟨c, hi, vt, vs, vl, hv, hp, h0, hci, hhH, hw, hsep, hat, hbd, hos, hs1, hol, hl1⟩ := h
  exact ⟨c, hi, vt, vs, vl, hv, hp, by omega, hci, by omega, hw', hsep, hat.low hB, hbd, hos, fun g hg => by have := hs1 g hg; omega, hol, fun g hg => by have := hl1 g hg; omega⟩

/-- the marks' number -/
def markK1 (s : StgD) : Int := 1 + (totTo s.net.ts s.net.ts.length : Nat)
def markK2 (s : StgD) : Int := markK1 s + 2 * (s.sigs.length : Int)
def markK3 (s : StgD) : Int := markK2 s + 2 * (s.labs.length : Int)
theorem markK_bounds {s : StgD} (h : SmallStg s) : 1 ≤ markK1 s ∧ markK1 s ≤ 2199023255553 ∧ 1 ≤ markK2 s ∧ markK2 s ≤ 2199025352705 ∧ 1 ≤ markK3 s ∧ markK3 s ≤ 2199027449857 := by
  have h1 := totTo_le h.1 s.net.ts.length (Nat.le_refl _)
  have h2 := h.1.1
  have h3 := h.2.1.1
  have h4 := h.2.2.1
  unfold markK3 markK2 markK1
  omega
/-- the graph holds its marks -/
def HeldStg (w : World) (v : Value) (s : StgD) : Prop :=
  ∃ (vt vs vl : Value), v = .agg #[.int .i64 s.net.places, vt, vs, vl, .string s.start] ∧ TrsAt 0 w vt (markedTs 1 s.net.ts) ∧
    SigsAt 0 w vs (markedSigs (markK1 s) s.sigs.length) ∧ LabsAt 0 w vl (markedLabs (markK2 s) s.labs.length)
theorem HeldStg.keep {w w' : World} {v : Value} {s : StgD} (h : HeldStg w v s) (hb : Carries 0 w w') : HeldStg w' v s := by
  obtain ⟨vt, vs, vl, hv, h0, h1, h2⟩ := h
  exact ⟨vt, vs, vl, hv, h0.keep hb, SigsAt.keep h1 hb, LabsAt.keep h2 hb⟩

/-- the marks are written -/
def RetMarkG (B H : Nat) (w : World) (v : Value) (s : StgD) (e : Ending) (w' : World) : Prop := e = .returned (.int .i64 (markK3 s)) ∧ Stir B H w w' ∧ HeldStg w' v s

theorem Stir.one {B H g : Nat} {w w' : World} {o : Option Nat} (h : Stir g (g + 1) w w') (hg : (o = some g ∧ B ≤ g ∧ g < H) ∨ w.heap.size ≤ g) : Stir B H w w' := by
  refine ⟨h.os, h.tape, h.output, h.size, fun b hb hc => h.block b hb ?_⟩
  omega

set_option maxRecDepth 100000 in
set_option maxHeartbeats 2000000 in
theorem markSTG_sep (v : Value) (s : StgD) (B H : Nat) (w : World) (hv : SepStg B H w v s) (hs : SmallStg s) :
    Calls Try.prog 40 #[v, .int .i64 1] w (RetMarkG B H w v s) := by
  obtain ⟨c, hi, vt, vs, vl, rfl, _, hB, hci, hH, hwH, hsep, hat, hbd, hos, hs1, hol, hl1⟩ := hv
  have hkb := markK_bounds hs
  obtain ⟨k1, k2, k3, k4⟩ := hs
  obtain ⟨a0, c0, rfl⟩ : ∃ a c, vt = .slice a s.net.ts.length c := by obtain ⟨_, a, c, rfl, _⟩ := hsep; exact ⟨a, c, rfl⟩
  obtain ⟨a1, c1, rfl⟩ := owns_form hos
  obtain ⟨a2, c2, rfl⟩ := owns_form hol
  have hap := rows_apartT hos hol (by decide)
  have hbT := hsep.bd hci
  have e1 : markK2 s = markK1 s + 2 * (s.sigs.length : Int) := rfl
  have e2 : markK3 s = markK2 s + 2 * (s.labs.length : Int) := rfl
  have e0 : (1 : Int) + (totTo s.net.ts s.net.ts.length : Nat) = markK1 s := rfl
  have HK := Lib.hid (And.intro e0 (And.intro e1 e2)); clear e0 e1 e2
  have hfinal : ∀ w' vt vs vl, TrsAt 0 w' vt (markedTs 1 s.net.ts) → SigsAt 0 w' vs (markedSigs (markK1 s) s.sigs.length) → LabsAt 0 w' vl (markedLabs (markK2 s) s.labs.length) → HeldStg w' (.agg #[.int .i64 s.net.places, vt, vs, vl, .string s.start]) s := fun w' vt vs vl h0 h1 h2 => ⟨vt, vs, vl, rfl, h0, h1, h2⟩
  have HF := Lib.hid hfinal; clear hfinal
  have HM := Lib.hid (markedTs_length 1 s.net.ts)
  unfold RetMarkG
  obtain ⟨G, hG⟩ : ∃ G : World → Value → Prop, G = fun w v => HeldStg w v s := ⟨_, rfl⟩
  have hGe : ∀ w v, HeldStg w v s = G w v := fun w v => by rw [hG]
  simp only [hGe] at HF ⊢
  clear hGe hG
  generalize markK1 s = K1 at HK HF hkb ⊢
  generalize markK2 s = K2 at HK HF hkb ⊢
  generalize markK3 s = K3 at HK HF hkb ⊢
  obtain ⟨n, ss, ls, st⟩ := s
  simp only at hsep hat hos hol k1 k2 k3 k4 hap hbT HK HF HM ⊢
  have HSEP := Lib.hid hsep; clear hsep
  have HOS := Lib.hid hos; clear hos
  have HOL := Lib.hid hol; clear hol
  have HBT := Lib.hid hbT; clear hbT
  have HAP := Lib.hid hap; clear hap
  have HBD := Lib.hid hbd; clear hbd hat
  have HS1 := Lib.hid hs1; clear hs1
  have HL1 := Lib.hid hl1; clear hl1
  have HCI := Lib.hid hci; clear hci
  have K1' := Lib.hid k1; clear k1
  have k2 := k2.1
  go_enter Try.func40, Try.ntmps40
  have hal : Below w.heap.size w (w.alloc (.cells #[.int .i64 n.places, .slice a0 n.ts.length c0, .slice a1 ss.length c1, .slice a2 ls.length c2, .string st] 63)) := (Below.refl _ _).alloc (Nat.le_refl _) _
  go_wp2_with fail
  have x2 : (w.alloc (.cells #[.int .i64 n.places, .slice a0 n.ts.length c0, .slice a1 ss.length c1, .slice a2 ls.length c2, .string st] 63)).cell? ⟨w.heap.size, 2, none⟩ = some (.slice a1 ss.length c1) := by simp
  have x3 : (w.alloc (.cells #[.int .i64 n.places, .slice a0 n.ts.length c0, .slice a1 ss.length c1, .slice a2 ls.length c2, .string st] 63)).cell? ⟨w.heap.size, 3, none⟩ = some (.slice a2 ls.length c2) := by simp
  have zz : w.heap.size < (w.alloc (.cells #[.int .i64 n.places, .slice a0 n.ts.length c0, .slice a1 ss.length c1, .slice a2 ls.length c2, .string st] 63)).heap.size := by simp
  generalize w.alloc (.cells #[.int .i64 n.places, .slice a0 n.ts.length c0, .slice a1 ss.length c1, .slice a2 ls.length c2, .string st] 63) = W at hal x2 x3 zz ⊢
  refine (markNet_sep n.places c _ n.ts 1 W (HSEP.out.keep hal) K1'.out (by omega) (by omega)).mono ?_
  rintro e w1 ⟨wa, rfl, hba, hmk, hheld⟩
  rw [HK.out.1]
  have hc2 : c (2 * n.ts.length) ≤ hi := HCI.out _
  have ST1 : Stir B H w w1 := (Stir.of _ _ hal).trans ((Stir.of _ _ hba).trans (hmk.stir.wide (by omega) (by omega)))
  have y2 := hmk.cell (Or.inr (by simp; omega)) (cell_carry x2 (Carries.of 0 hba))
  have y3 := hmk.cell (Or.inr (by simp; omega)) (cell_carry x3 (Carries.of 0 hba))
  have hsm : Same hi w w1 := ((Same.of hi hal).trans (Same.of hi hba)).trans (hmk.sameOf hc2)
  have O1 := owns_same HOS.out hsm
  have O2 := owns_same HOL.out hsm
  have T1 := ((HBT.out.keep (Carries.of 0 hal)).keep (Carries.of 0 hba)).marks hmk
  have z1 := ST1.size
  have zw : w.heap.size < w1.heap.size := by have := hba.size; have := hmk.size; omega
  clear hmk hba x2 x3 hal hsm
  obtain ⟨g1, hg1, hgc1, hbx1, hfm1⟩ := owns_box O1
  have HT1 := Lib.hid T1; clear T1
  have HHD := Lib.hid hheld; clear hheld
  have HO2 := Lib.hid O2; clear O2 O1
  have HG1 := Lib.hid hg1; clear hg1
  have HGC1 := Lib.hid hgc1; clear hgc1
  go_wp2_with fail
  refine (markSignalS_at _ ss.length _ _ g1 (g1 + 1) hbx1 hfm1 k2 (by omega) (by omega)).mono ?_
  rintro e w2 ⟨rfl, hst, hsr⟩
  rw [← HK.out.2.1]
  have hgw : (some g1 = some g1 ∧ B ≤ g1 ∧ g1 < H) ∨ w1.heap.size ≤ g1 := by
    rcases HGC1.out with ⟨q1, q2⟩ | ⟨q1, _⟩
    · exact Or.inl ⟨rfl, by have := HCI.out 0; omega, HS1.out g1 q1⟩
    · exact Or.inr q1
  have hig : hi ≤ g1 := by
    rcases HGC1.out with ⟨q1, q2⟩ | ⟨q1, _⟩
    · exact q2
    · omega
  have ST2 := ST1.trans (hst.one hgw)
  have hx3 : (⟨w.heap.size, 3, none⟩ : Addr).block < g1 ∨ g1 + 1 ≤ (⟨w.heap.size, 3, none⟩ : Addr).block := by
    show w.heap.size < g1 ∨ g1 + 1 ≤ w.heap.size
    rcases hgw with ⟨_, _, q⟩ | q
    · right; omega
    · left; omega
  have y3 := hst.cell hx3 y3
  have hne2 : ∀ b, (Value.slice a2 ls.length c2).ownBlock = some b → b < g1 ∨ g1 + 1 ≤ b := by
    intro b hb
    have hbs := (HO2.out.lt b hb).2
    rcases HGC1.out with ⟨q1, q2⟩ | ⟨q1, _⟩
    · rcases HAP.out with h | h
      · rw [h] at q1; cases q1
      · rw [q1, hb] at h
        have : g1 ≠ b := fun e => h (by rw [e])
        omega
    · left; omega
  have O3 := owns_other HO2.out hst hne2
  obtain ⟨T2, D2⟩ := TrsAt.far HHD.out (by rw [HM.out]; exact HT1.out) (by exact HBD.out) hst hig
  have HSR := Lib.hid (hsr : SigsAt g1 w2 (.slice a1 ss.length c1) (markedSigs K1 ss.length)); clear hsr
  have HST := Lib.hid T2; clear T2
  have HSD := Lib.hid D2; clear D2
  clear hst y2 hx3 hbx1 hfm1 hne2
  obtain ⟨g2, hg2, hgc2, hbx2, hfm2⟩ := owns_box O3
  have HGC2 := Lib.hid hgc2; clear hgc2
  have z2 := ST2.size
  clear O3 hg2
  go_wp2_with fail
  refine (markLabelS_at _ ls.length _ _ g2 (g2 + 1) hbx2 hfm2 k3 (by omega) (by omega)).mono ?_
  rintro e w3 ⟨rfl, hst, hlr⟩
  rw [← HK.out.2.2]
  have hgw2 : (some g2 = some g2 ∧ B ≤ g2 ∧ g2 < H) ∨ w2.heap.size ≤ g2 := by
    rcases HGC2.out with ⟨q1, q2⟩ | ⟨q1, _⟩
    · exact Or.inl ⟨rfl, by have := HCI.out 0; omega, HL1.out g2 q1⟩
    · exact Or.inr q1
  have hig2 : hi ≤ g2 := by
    rcases HGC2.out with ⟨q1, q2⟩ | ⟨q1, _⟩
    · exact q2
    · omega
  have ST3 := ST2.trans (hst.one hgw2)
  have hne3 : ∀ b, (Value.slice a1 ss.length c1).ownBlock = some b → b < g2 ∨ g2 + 1 ≤ b := by
    intro b hb
    have hbs := HS1.out b hb
    rcases HGC2.out with ⟨q1, q2⟩ | ⟨q1, _⟩
    · rcases HAP.out with h | h
      · rw [h] at hb; cases hb
      · rw [q1, hb] at h
        have : b ≠ g2 := fun e => h (by rw [e])
        omega
    · left; omega
  obtain ⟨T3, _⟩ := TrsAt.far HST.out HSD.out HBD.out hst hig2
  have S3 : SigsAt 0 w3 (.slice a1 ss.length c1) (markedSigs K1 ss.length) := PairsAt.low (PairsAt.far HSR.out hst (by exact hne3)) (Nat.zero_le _)
  have L3 := LabsAt.low hlr (Nat.zero_le _)
  have HH := Lib.hid (HF.out w3 _ _ _ T3 S3 L3)
  clear hst hlr T3 S3 L3 hne3 hbx2 hfm2
  go_wp2_with fail
  go_ret
  exact ⟨rfl, ST3, HH.out⟩

set_option maxRecDepth 100000 in
set_option maxHeartbeats 1000000 in
theorem heldSTG_any (v : Value) (s : StgD) (w : World) (hv : HeldStg w v s) (hs : SmallStg s) :
    Calls Try.prog 41 #[v, .int .i64 1] w (RetV w (.int .i64 (markK3 s))) := by
  obtain ⟨vt, vs, vl, rfl, ht, hsg, hl⟩ := hv
  have hkb := markK_bounds hs
  obtain ⟨k1, k2, k3, k4⟩ := hs
  obtain ⟨a0, c0, rfl⟩ : ∃ a c, vt = .slice a s.net.ts.length c := by obtain ⟨a, c, rfl, _⟩ := ht; rw [markedTs_length]; exact ⟨a, c, rfl⟩
  obtain ⟨a1, c1, rfl⟩ : ∃ a c, vs = .slice a s.sigs.length c := by obtain ⟨a, c, rfl, _⟩ := hsg; rw [markedSigs_length]; exact ⟨a, c, rfl⟩
  obtain ⟨a2, c2, rfl⟩ : ∃ a c, vl = .slice a s.labs.length c := by obtain ⟨a, c, rfl, _⟩ := hl; rw [markedLabs_length]; exact ⟨a, c, rfl⟩
  have e1 : markK2 s = markK1 s + 2 * (s.sigs.length : Int) := rfl
  have e2 : markK3 s = markK2 s + 2 * (s.labs.length : Int) := rfl
  have e0 : (1 : Int) + (totTo s.net.ts s.net.ts.length : Nat) = markK1 s := rfl
  have HK := Lib.hid (And.intro e0 (And.intro e1 e2)); clear e0 e1 e2
  generalize markK1 s = K1 at HK hkb hsg ⊢
  generalize markK2 s = K2 at HK hkb hl ⊢
  generalize markK3 s = K3 at HK hkb ⊢
  obtain ⟨n, ss, ls, st⟩ := s
  simp only at ht hsg hl k1 k2 k3 k4 HK ⊢
  have HT := Lib.hid ht; clear ht
  have HG := Lib.hid hsg; clear hsg
  have HL := Lib.hid hl; clear hl
  have K1' := Lib.hid k1; clear k1
  have k2 := k2.1
  go_enter Try.func41, Try.ntmps41
  have hal : Below w.heap.size w (w.alloc (.cells #[.int .i64 n.places, .slice a0 n.ts.length c0, .slice a1 ss.length c1, .slice a2 ls.length c2, .string st] 63)) := (Below.refl _ _).alloc (Nat.le_refl _) _
  go_wp2_with fail
  have x2 : (w.alloc (.cells #[.int .i64 n.places, .slice a0 n.ts.length c0, .slice a1 ss.length c1, .slice a2 ls.length c2, .string st] 63)).cell? ⟨w.heap.size, 2, none⟩ = some (.slice a1 ss.length c1) := by simp
  have x3 : (w.alloc (.cells #[.int .i64 n.places, .slice a0 n.ts.length c0, .slice a1 ss.length c1, .slice a2 ls.length c2, .string st] 63)).cell? ⟨w.heap.size, 3, none⟩ = some (.slice a2 ls.length c2) := by simp
  generalize w.alloc (.cells #[.int .i64 n.places, .slice a0 n.ts.length c0, .slice a1 ss.length c1, .slice a2 ls.length c2, .string st] 63) = W at hal x2 x3 ⊢
  refine (heldNet_any n.places _ n.ts 1 W 0 (HT.out.keep (Carries.of 0 hal)) K1'.out (by omega) (by omega)).mono ?_
  rintro e w1 ⟨rfl, hb⟩
  rw [HK.out.1]
  have hw1 := hal.trans (hb.mono hal.size)
  have x2 := cell_carry x2 (Carries.of 0 hb)
  have x3 := cell_carry x3 (Carries.of 0 hb)
  clear hb hal
  have t1 : decide (K1 < 0) = false := decide_eq_false (by omega)
  go_wp2_with fail
  refine (heldSignalS_any _ ss.length _ _ 0 (SigsAt.keep HG.out (Carries.of 0 hw1)) k2 (by omega) (by omega)).mono ?_
  rintro e w2 ⟨rfl, hb⟩
  rw [← HK.out.2.1]
  have hw2 := hw1.trans (hb.mono hw1.size)
  have x3 := cell_carry x3 (Carries.of 0 hb)
  clear hb x2
  have t2 : decide (K2 < 0) = false := decide_eq_false (by omega)
  go_wp2_with fail
  refine (heldLabelS_any _ ls.length _ _ 0 (LabsAt.keep HL.out (Carries.of 0 hw2)) k3 (by omega) (by omega)).mono ?_
  rintro e w3 ⟨rfl, hb⟩
  rw [← HK.out.2.2]
  have hw3 := hw2.trans (hb.mono hw2.size)
  clear hb
  have t3 : decide (K3 < 0) = false := decide_eq_false (by omega)
  go_wp2_with fail
  go_ret
  exact ⟨rfl, hw3⟩

/-- a call returns this graph and this bool: a graph that reads so; a graph of its own -/
def RetSB (w : World) (s : StgD) (b : Bool) (e : Ending) (w' : World) : Prop := ∃ v, e = .returned (.tuple #[v, .bool b]) ∧ StgAt w.heap.size w' v s ∧ Below w.heap.size w w'
def RetSO (w : World) (s : StgD) (b : Bool) (e : Ending) (w' : World) : Prop := ∃ v, e = .returned (.tuple #[v, .bool b]) ∧ SepStg w.heap.size w'.heap.size w' v s ∧ Below w.heap.size w w'

end Go.Proofs.Ytgmnknlnlmcmfaa
