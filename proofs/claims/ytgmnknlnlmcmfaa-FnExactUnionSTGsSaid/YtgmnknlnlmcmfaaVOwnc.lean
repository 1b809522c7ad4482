/- GRAPHS OF A CALL'S OWN, whose signals and labels are written anew: what else they hold stands. -/
import Derived.Test.YtgmnknlnlmcmfaaVSeps
namespace Go.Proofs.Ytgmnknlnlmcmfaa
open Go.RowKit

/-- every block from B on stands, but two -/
def But (B : Nat) (o1 o2 : Option Nat) (w w' : World) : Prop := w.heap.size ≤ w'.heap.size ∧ ∀ b, B ≤ b → b < w.heap.size → some b ≠ o1 → some b ≠ o2 → w'.heap[b]? = w.heap[b]?
theorem But.of {B : Nat} {o1 o2 : Option Nat} {w w' : World} (h : w.grownBy w' o1) : But B o1 o2 w w' := ⟨h.size, fun b _ hb h1 _ => h.block b hb h1⟩
theorem But.of2 {B : Nat} {o1 o2 : Option Nat} {w w' : World} (h : w.grownBy w' o2) : But B o1 o2 w w' := ⟨h.size, fun b _ hb _ h2 => h.block b hb h2⟩
theorem But.trans {B : Nat} {o1 o2 : Option Nat} {a b c : World} (h : But B o1 o2 a b) (k : But B o1 o2 b c) : But B o1 o2 a c :=
  ⟨Nat.le_trans h.1 k.1, fun x hx hb h1 h2 => (k.2 x hx (Nat.lt_of_lt_of_le hb h.1) h1 h2).trans (h.2 x hx hb h1 h2)⟩
theorem But.below {B : Nat} {o1 o2 : Option Nat} {w w' : World} (h : Below w.heap.size w w') : But B o1 o2 w w' := ⟨h.size, fun b _ hb _ _ => h.block b hb⟩
theorem But.set {B : Nat} {o1 o2 : Option Nat} {a w : World} (h : But B o1 o2 a w) {p : Addr} (hp : p.block < B) (u : Value) : But B o1 o2 a (w.setCell p u) :=
  h.trans ⟨by simp [World.setCell], fun b hB _ _ _ => Below.heap_setCell _ _ _ _ (by omega)⟩

theorem IntsOw.but {l B : Nat} {o1 o2 : Option Nat} {w w' : World} {v : Value} {zs : List Int} (h : IntsOw l w v zs) (hb : But B o1 o2 w w') (hl : B ≤ l) (hne : ∀ b off len cap, v = .slice (some ⟨b, off, none⟩) len cap → 0 < len → some b ≠ o1 ∧ some b ≠ o2) : IntsOw l w' v zs := by
  obtain ⟨ao, cap, rfl, hc, hz⟩ := h
  refine ⟨ao, cap, rfl, hc, ?_⟩
  rcases hz with hz | ⟨b, off, rfl, hlo, hcell⟩
  · exact Or.inl hz
  · refine Or.inr ⟨b, off, rfl, hlo, fun i hi => ?_⟩
    obtain ⟨h1, h2⟩ := hcell i hi
    obtain ⟨n1, n2⟩ := hne b off _ _ rfl (by omega)
    have he := hb.2 b (by omega) (by have := cell_old h1; simpa using this) n1 n2
    exact ⟨(World.cell?_of_block (w := w) (w' := w') (a := ⟨b, off + i, none⟩) he).trans h1, (World.frozen?_of_block (w := w) (w' := w') (a := ⟨b, off + i, none⟩) he).trans h2⟩
theorem IntsAt.but {l B : Nat} {o1 o2 : Option Nat} {w w' : World} {v : Value} {zs : List Int} (h : IntsAt l w v zs) (hb : But B o1 o2 w w') (hl : B ≤ l) (hne : ∀ b off len cap, v = .slice (some ⟨b, off, none⟩) len cap → 0 < len → some b ≠ o1 ∧ some b ≠ o2) : IntsAt l w' v zs := by
  obtain ⟨ao, cap, rfl, hc, hz⟩ := h
  refine ⟨ao, cap, rfl, hc, ?_⟩
  rcases hz with hz | ⟨b, off, rfl, hlo, hcell⟩
  · exact Or.inl hz
  · refine Or.inr ⟨b, off, rfl, hlo, fun i hi => ?_⟩
    have h1 := hcell i hi
    obtain ⟨n1, n2⟩ := hne b off _ _ rfl (by omega)
    have he := hb.2 b (by omega) (by have := cell_old h1; simpa using this) n1 n2
    exact (World.cell?_of_block (w := w) (w' := w') (a := ⟨b, off + i, none⟩) he).trans h1
theorem owns_but {base B size n : Nat} {e : TypeId} {o1 o2 : Option Nat} {v : Value} {xs : List Value} {w w' : World} (h : w.ownsRow base e size v n xs) (hs : But B o1 o2 w w') (hB : B ≤ base) (hne : ∀ b, v.ownBlock = some b → some b ≠ o1 ∧ some b ≠ o2) : w'.ownsRow base e size v n xs := by
  refine ⟨h.1, ?_⟩
  rcases h.2 with hn | ⟨g, cap, cur, rfl, hb, hg, rest⟩
  · exact Or.inl hn
  · obtain ⟨n1, n2⟩ := hne g rfl
    exact Or.inr ⟨g, cap, cur, rfl, hb, (hs.2 g (by omega) (Array.getElem?_eq_some_iff.1 hg).1 n1 n2).trans hg, rest⟩

theorem TrsSep.but {c : Nat → Nat} {B hi : Nat} {o1 o2 : Option Nat} {w w' : World} {v : Value} {ts : List Tr} (h : TrsSep c w v ts) (ha : TrsAt B w v ts) (hB : B ≤ c 0) (hci : ∀ i, c i ≤ hi) (hbd : Bound hi v) (hs : But B o1 o2 w w')
    (hne : ∀ b, b < hi → some b ≠ o1 ∧ some b ≠ o2) : TrsSep c w' v ts ∧ TrsAt B w' v ts := by
  obtain ⟨hc, ao, cap, rfl, hcap, hz⟩ := h
  obtain ⟨ao', cap', hv, _, hz'⟩ := ha
  simp only [Value.slice.injEq, true_and] at hv
  obtain ⟨rfl, rfl⟩ := hv
  rcases hz with rfl | ⟨b, off, rfl, hcell⟩
  · exact ⟨⟨hc, _, _, rfl, hcap, Or.inl rfl⟩, _, _, rfl, hcap, Or.inl rfl⟩
  · rcases hz' with rfl | ⟨b', off', hbb, hlo, hcell'⟩
    · exact ⟨⟨hc, _, _, rfl, hcap, Or.inl rfl⟩, _, _, rfl, hcap, Or.inl rfl⟩
    · simp only [Option.some.injEq, Addr.mk.injEq, and_true] at hbb
      obtain ⟨rfl, rfl⟩ := hbb
      have hcl : ∀ {x : Nat} {u : Value}, 0 < ts.length → w.cell? ⟨b, x, none⟩ = some u → w'.cell? ⟨b, x, none⟩ = some u := fun {x} {u} hp hx => by
        have hb : b < hi := hbd b off _ _ rfl hp
        obtain ⟨n1, n2⟩ := hne b hb
        exact (World.cell?_of_block (w := w) (w' := w') (a := ⟨b, x, none⟩) (hs.2 b hlo (by have := cell_old hx; simpa using this) n1 n2)).trans hx
      refine ⟨⟨hc, _, _, rfl, hcap, Or.inr ⟨_, _, rfl, fun i hi' => ?_⟩⟩, _, _, rfl, hcap, Or.inr ⟨_, _, rfl, hlo, fun i hi' => ?_⟩⟩
      · obtain ⟨v0, v1, c0, c1, ⟨h0, b0⟩, h1, b1⟩ := hcell i hi'
        have m0 : c 0 ≤ c (2 * i) := mono_le hc (by omega)
        have m1 : c 0 ≤ c (2 * i + 1) := mono_le hc (by omega)
        exact ⟨v0, v1, hcl (by omega) c0, hcl (by omega) c1, ⟨h0.but hs (by omega) (fun b off len cap hv hp => hne b (Nat.lt_of_lt_of_le (b0 b off len cap hv hp) (hci _))), b0⟩, h1.but hs (by omega) (fun b off len cap hv hp => hne b (Nat.lt_of_lt_of_le (b1 b off len cap hv hp) (hci _))), b1⟩
      · obtain ⟨v0, v1, c0, c1, ⟨h0, b0⟩, h1, b1⟩ := hcell i hi'
        have m0 : c 0 ≤ c (2 * i) := mono_le hc (by omega)
        have m1 : c 0 ≤ c (2 * i + 1) := mono_le hc (by omega)
        exact ⟨v0, v1, hcl (by omega) c0, hcl (by omega) c1, (h0.but hs (by omega) (fun b off len cap hv hp => hne b (Nat.lt_of_lt_of_le (b0 b off len cap hv hp) (hci _)))).at.low (by omega), (h1.but hs (by omega) (fun b off len cap hv hp => hne b (Nat.lt_of_lt_of_le (b1 b off len cap hv hp) (hci _)))).at.low (by omega)⟩

/-- a graph of a call's own, opened: its rows; and what it is when they are written anew -/
def OwnOpen (B H : Nat) (w : World) (s : StgD) (vt vs vl : Value) (G : World → Value → StgD → Prop) : Prop :=
  ∃ hi, B ≤ hi ∧ hi ≤ H ∧ w.ownsRow hi 118 2 vs s.sigs.length (pairCells (sgX s.sigs) (sgY s.sigs) s.sigs.length) ∧ (∀ g, vs.ownBlock = some g → g < H) ∧
    w.ownsRow hi 113 2 vl s.labs.length (pairCells (lbX s.labs) (lbY s.labs) s.labs.length) ∧ (∀ g, vl.ownBlock = some g → g < H) ∧
    ∀ w' vs' vl' ss ls, But B vs.ownBlock vl.ownBlock w w' → w'.ownsRow hi 118 2 vs' ss.length (pairCells (sgX ss) (sgY ss) ss.length) → (∀ g, vs'.ownBlock = some g → g < H) →
      w'.ownsRow hi 113 2 vl' ls.length (pairCells (lbX ls) (lbY ls) ls.length) → (∀ g, vl'.ownBlock = some g → g < H) →
      G w' (.agg #[.int .i64 s.net.places, vt, vs', vl', .string s.start]) ⟨s.net, ss, ls, s.start⟩

theorem SepStg.open {B H : Nat} {w : World} {v : Value} {s : StgD} (h : SepStg B H w v s) : ∃ ta tc sa sc la lc, v = .agg #[.int .i64 s.net.places, .slice ta s.net.ts.length tc, .slice sa s.sigs.length sc, .slice la s.labs.length lc, .string s.start] ∧ OwnOpen B H w s (.slice ta s.net.ts.length tc) (.slice sa s.sigs.length sc) (.slice la s.labs.length lc) (SepStg B H) := by
  obtain ⟨c, hi, vt, vs, vl, hv, hp, hB, hci, hH, hw, hsep, hat, hbd, hos, hs1, hol, hl1⟩ := h
  have hBh : B ≤ hi := Nat.le_trans hB (hci 0)
  obtain ⟨ta, tc, rfl⟩ : ∃ a c, vt = .slice a s.net.ts.length c := by obtain ⟨a, c, rfl, _⟩ := hat; exact ⟨a, c, rfl⟩
  obtain ⟨sa, sc, rfl⟩ := owns_form hos
  obtain ⟨la, lc, rfl⟩ := owns_form hol
  refine ⟨ta, tc, sa, sc, la, lc, hv, hi, hBh, hH, hos, hs1, hol, hl1, fun w' vs' vl' ss ls hbut hos' hs1' hol' hl1' => ?_⟩
  obtain ⟨hsep', hat'⟩ := hsep.but hat hB hci hbd hbut (fun b hb => ⟨fun e => by have := (hos.lt b e.symm).1; omega, fun e => by have := (hol.lt b e.symm).1; omega⟩)
  exact ⟨c, hi, _, vs', vl', rfl, hp, hB, hci, hH, Nat.le_trans hw hbut.1, hsep', hat', hbd, hos', hs1', hol', hl1'⟩

theorem RetCopyS.sep {w w' : World} {s : StgD} {e : Ending} (h : RetCopyS w s e w') (hp : -9223372036854775808 ≤ s.net.places ∧ s.net.places ≤ 9223372036854775807) : ∃ v, e = .returned v ∧ SepStg w.heap.size w'.heap.size w' v s ∧ Below w.heap.size w w' := by
  obtain ⟨R, B, c, vs, vl, rfl, h0, h1, h2, h3, hrow, hos, hol, hb⟩ := h
  have hr := hrow.read
  refine ⟨_, rfl, ⟨c, B, _, vs, vl, rfl, hp, by omega, h2, h3, Nat.le_refl _, hr, ?_, ?_, hos, fun g hg => (hos.lt g hg).2, hol, fun g hg => (hol.lt g hg).2⟩, hb⟩
  · obtain ⟨hc, ao, cap, e, hcap, hz⟩ := hr
    simp only [Value.slice.injEq, true_and] at e
    obtain ⟨rfl, rfl⟩ := e
    refine ⟨_, _, rfl, hcap, ?_⟩
    rcases hz with hz | ⟨b, off, ha, hcell⟩
    · exact Or.inl hz
    · simp only [Option.some.injEq, Addr.mk.injEq, and_true] at ha
      obtain ⟨rfl, rfl⟩ := ha
      refine Or.inr ⟨_, _, rfl, h0, fun i hi => ?_⟩
      obtain ⟨v0, v1, c0, c1, ⟨g0, _⟩, g1, _⟩ := hcell i hi
      have m0 : c 0 ≤ c (2 * i) := mono_le hc (by omega)
      have m1 : c 0 ≤ c (2 * i + 1) := mono_le hc (by omega)
      exact ⟨v0, v1, c0, c1, g0.at.low (by omega), g1.at.low (by omega)⟩
  · intro b off len cap hv hp'
    simp only [Value.slice.injEq, Option.some.injEq, Addr.mk.injEq, and_true] at hv
    obtain ⟨⟨rfl, _⟩, _⟩ := hv
    have := h2 0
    omega

theorem owns_at {B : Nat} {w : World} {v : Value} {zs : List Int} (h : w.ownsRow B 3 1 v zs.length (intCells zs)) : IntsAt B w v zs := (ow_of_owns h).at
theorem RetL2.open2 {w w' : World} {s : StgD} {e : Ending} (h : RetL2 w s e w') (hp : -9223372036854775808 ≤ s.net.places ∧ s.net.places ≤ 9223372036854775807) : ∃ ta tc sa sc la lc, e = .returned (.agg #[.int .i64 s.net.places, .slice ta s.net.ts.length tc, .slice sa s.sigs.length sc, .slice la s.labs.length lc, .string s.start]) ∧
    w'.ownsRow w.heap.size 118 2 (.slice sa s.sigs.length sc) s.sigs.length (pairCells (sgX s.sigs) (sgY s.sigs) s.sigs.length) ∧
    w'.ownsRow w.heap.size 113 2 (.slice la s.labs.length lc) s.labs.length (pairCells (lbX s.labs) (lbY s.labs) s.labs.length) ∧
    (∀ w2 vs' vl' ss ls, But w.heap.size (Value.slice sa s.sigs.length sc).ownBlock (Value.slice la s.labs.length lc).ownBlock w' w2 → w2.ownsRow w.heap.size 118 2 vs' ss.length (pairCells (sgX ss) (sgY ss) ss.length) →
      w2.ownsRow w.heap.size 113 2 vl' ls.length (pairCells (lbX ls) (lbY ls) ls.length) → StgAt w.heap.size w2 (.agg #[.int .i64 s.net.places, .slice ta s.net.ts.length tc, vs', vl', .string s.start]) ⟨s.net, ss, ls, s.start⟩) ∧ Below w.heap.size w w' := by
  obtain ⟨u, xs, vs, vl, rfl, hot, hlists, hos, hol, hb⟩ := h
  obtain ⟨ta, tc, rfl⟩ := owns_form hot
  obtain ⟨sa, sc, rfl⟩ := owns_form hos
  obtain ⟨la, lc, rfl⟩ := owns_form hol
  refine ⟨ta, tc, sa, sc, la, lc, rfl, hos, hol, fun w2 vs' vl' ss ls hbut hos' hol' => ?_, hb⟩
  have apart : ∀ {e : TypeId} {n k : Nat} {v : Value} {ys : List Value}, e ≠ 118 → e ≠ 113 → w'.ownsRow w.heap.size e k v n ys → ∀ b, v.ownBlock = some b → some b ≠ (Value.slice sa s.sigs.length sc).ownBlock ∧ some b ≠ (Value.slice la s.labs.length lc).ownBlock := fun {e n k v ys} h1 h2 ho b hbv => by
    rcases rows_apartT ho hos h1 with q | q
    · rw [q] at hbv; cases hbv
    · rcases rows_apartT ho hol h2 with q2 | q2
      · rw [q2] at hbv; cases hbv
      · rw [← hbv]; exact ⟨q, q2⟩
  have hot' := owns_but hot hbut (Nat.le_refl _) (apart (by decide) (by decide) hot)
  refine ⟨_, vs', vl', rfl, ⟨hp.1, hp.2, _, rfl, ?_⟩, pairs_of_owns hos', pairs_of_owns hol'⟩
  show TrsAt w.heap.size w2 (.slice ta s.net.ts.length tc) s.net.ts
  have h0 := hot'
  rcases hot'.2 with ⟨e, hn⟩ | ⟨g, cap, cur, e, hbg, hg, hnc, _⟩
  · have hz : s.net.ts = [] := List.eq_nil_of_length_eq_zero hn
    simp only [Value.slice.injEq] at e
    obtain ⟨rfl, _, rfl⟩ := e
    exact ⟨none, 0, rfl, by omega, Or.inl hz⟩
  · simp only [Value.slice.injEq, true_and] at e
    obtain ⟨rfl, rfl⟩ := e
    refine ⟨_, _, rfl, hnc, Or.inr ⟨g, 0, rfl, hbg, fun i hi => ?_⟩⟩
    obtain ⟨v0, v1, e0, e1, q0, q1⟩ := hlists.2 i hi
    refine ⟨v0, v1, ?_, ?_, owns_at (owns_but q0 hbut (Nat.le_refl _) (apart (by decide) (by decide) q0)), owns_at (owns_but q1 hbut (Nat.le_refl _) (apart (by decide) (by decide) q1))⟩
    · rw [Nat.zero_add, h0.cellAt (i * 2) (by omega)]; exact e0
    · rw [Nat.zero_add, h0.cellAt (i * 2 + 1) (by omega)]; exact e1

theorem RetL2.open {w w' : World} {s : StgD} {e : Ending} (h : RetL2 w s e w') (hp : -9223372036854775808 ≤ s.net.places ∧ s.net.places ≤ 9223372036854775807) : ∃ ta tc sa sc la lc, e = .returned (.agg #[.int .i64 s.net.places, .slice ta s.net.ts.length tc, .slice sa s.sigs.length sc, .slice la s.labs.length lc, .string s.start]) ∧
    OwnOpen w.heap.size w'.heap.size w' s (.slice ta s.net.ts.length tc) (.slice sa s.sigs.length sc) (.slice la s.labs.length lc) (StgAt w.heap.size) ∧ Below w.heap.size w w' := by
  obtain ⟨ta, tc, sa, sc, la, lc, rfl, hos, hol, hcl, hb⟩ := h.open2 hp
  exact ⟨ta, tc, sa, sc, la, lc, rfl, ⟨w.heap.size, Nat.le_refl _, hb.size, hos, fun g hg => (hos.lt g hg).2, hol, fun g hg => (hol.lt g hg).2, fun w2 vs' vl' ss ls hbut hos' _ hol' _ => hcl w2 vs' vl' ss ls hbut hos' hol'⟩, hb⟩

/-- one cell of the pairs is written -/
theorem pairCells_congr {x y x' y' : Nat → Value} : ∀ n, (∀ i, i < n → x i = x' i ∧ y i = y' i) → pairCells x y n = pairCells x' y' n
  | 0, _ => rfl
  | n + 1, h => by unfold pairCells; rw [pairCells_congr n (fun i hi => h i (by omega)), (h n (Nat.lt_succ_self _)).1, (h n (Nat.lt_succ_self _)).2]
theorem pairCells_set1 (x y : Nat → Value) (j : Nat) (u : Value) : ∀ n, j < n → (pairCells x y n).set (j * 2 + 1) u = pairCells x (fun i => if i = j then u else y i) n
  | 0, h => absurd h (Nat.not_lt_zero _)
  | n + 1, h => by
    have hl := pairCells_length x y n
    unfold pairCells
    by_cases e : j = n
    · subst e
      rw [List.set_append_right _ _ (by omega), hl, show j * 2 + 1 - j * 2 = 1 by omega, pairCells_congr (x := x) (y := fun i => if i = j then u else y i) (x' := x) (y' := y) j (fun i hi => ⟨rfl, if_neg (by omega)⟩)]
      simp
    · rw [List.set_append_left _ _ (by omega), pairCells_set1 x y j u n (by omega)]
      have : ¬ n = j := fun h => e h.symm
      simp [this]
theorem pairCells_set0 (x y : Nat → Value) (j : Nat) (u : Value) : ∀ n, j < n → (pairCells x y n).set (j * 2) u = pairCells (fun i => if i = j then u else x i) y n
  | 0, h => absurd h (Nat.not_lt_zero _)
  | n + 1, h => by
    have hl := pairCells_length x y n
    unfold pairCells
    by_cases e : j = n
    · subst e
      rw [List.set_append_right _ _ (by omega), hl, show j * 2 - j * 2 = 0 by omega, pairCells_congr (x := fun i => if i = j then u else x i) (y := y) (x' := x) (y' := y) j (fun i hi => ⟨if_neg (by omega), rfl⟩)]
      simp
    · rw [List.set_append_left _ _ (by omega), pairCells_set0 x y j u n (by omega)]
      have : ¬ n = j := fun h => e h.symm
      simp [this]

/-- five cells of one block are written -/
theorem put5_cells {w W : World} {b : Nat} {v0 v1 v2 v3 v4 u0 u1 u2 u3 u4 : Value} (hW : (((((w.setCell ⟨b, 0, none⟩ (v0)).setCell ⟨b, 1, none⟩ (v1)).setCell ⟨b, 2, none⟩ (v2)).setCell ⟨b, 3, none⟩ (v3)).setCell ⟨b, 4, none⟩ (v4)) = W) (h0 : w.cell? ⟨b, 0, none⟩ = some u0) (h1 : w.cell? ⟨b, 1, none⟩ = some u1) (h2 : w.cell? ⟨b, 2, none⟩ = some u2) (h3 : w.cell? ⟨b, 3, none⟩ = some u3) (h4 : w.cell? ⟨b, 4, none⟩ = some u4) :
    W.cell? ⟨b, 0, none⟩ = some v0 ∧ W.cell? ⟨b, 1, none⟩ = some v1 ∧ W.cell? ⟨b, 2, none⟩ = some v2 ∧ W.cell? ⟨b, 3, none⟩ = some v3 ∧ W.cell? ⟨b, 4, none⟩ = some v4 := by
  subst hW
  exact ⟨((World.cell?_setCell_other _ _ _ _ (by simp)).trans ((World.cell?_setCell_other _ _ _ _ (by simp)).trans ((World.cell?_setCell_other _ _ _ _ (by simp)).trans ((World.cell?_setCell_other _ _ _ _ (by simp)).trans (World.cell?_setCell_same _ _ _ h0))))), ((World.cell?_setCell_other _ _ _ _ (by simp)).trans ((World.cell?_setCell_other _ _ _ _ (by simp)).trans ((World.cell?_setCell_other _ _ _ _ (by simp)).trans (World.cell?_setCell_same _ _ _ ((World.cell?_setCell_other _ _ _ _ (by simp)).trans h1))))), ((World.cell?_setCell_other _ _ _ _ (by simp)).trans ((World.cell?_setCell_other _ _ _ _ (by simp)).trans (World.cell?_setCell_same _ _ _ ((World.cell?_setCell_other _ _ _ _ (by simp)).trans ((World.cell?_setCell_other _ _ _ _ (by simp)).trans h2))))), ((World.cell?_setCell_other _ _ _ _ (by simp)).trans (World.cell?_setCell_same _ _ _ ((World.cell?_setCell_other _ _ _ _ (by simp)).trans ((World.cell?_setCell_other _ _ _ _ (by simp)).trans ((World.cell?_setCell_other _ _ _ _ (by simp)).trans h3))))), (World.cell?_setCell_same _ _ _ ((World.cell?_setCell_other _ _ _ _ (by simp)).trans ((World.cell?_setCell_other _ _ _ _ (by simp)).trans ((World.cell?_setCell_other _ _ _ _ (by simp)).trans ((World.cell?_setCell_other _ _ _ _ (by simp)).trans h4)))))⟩
theorem put5_below {w W : World} {b : Nat} {v0 v1 v2 v3 v4 : Value} (hW : (((((w.setCell ⟨b, 0, none⟩ (v0)).setCell ⟨b, 1, none⟩ (v1)).setCell ⟨b, 2, none⟩ (v2)).setCell ⟨b, 3, none⟩ (v3)).setCell ⟨b, 4, none⟩ (v4)) = W) {B : Nat} {a : World} (h : Below B a w) (hb : B ≤ b) : Below B a W := by
  subst hW
  exact ((((h.setCell hb _).setCell hb _).setCell hb _).setCell hb _).setCell hb _
theorem put5_owns {w W : World} {b : Nat} {v0 v1 v2 v3 v4 : Value} (hW : (((((w.setCell ⟨b, 0, none⟩ (v0)).setCell ⟨b, 1, none⟩ (v1)).setCell ⟨b, 2, none⟩ (v2)).setCell ⟨b, 3, none⟩ (v3)).setCell ⟨b, 4, none⟩ (v4)) = W) {B size n : Nat} {e : TypeId} {v : Value} {xs : List Value} (h : w.ownsRow B e size v n xs) (hb : b < B) : W.ownsRow B e size v n xs := by
  subst hW
  exact owns_set (owns_set (owns_set (owns_set (owns_set h (p := ⟨b, 0, none⟩) hb _) (p := ⟨b, 1, none⟩) hb _) (p := ⟨b, 2, none⟩) hb _) (p := ⟨b, 3, none⟩) hb _) (p := ⟨b, 4, none⟩) hb _
theorem put5_but {w W : World} {b : Nat} {v0 v1 v2 v3 v4 : Value} (hW : (((((w.setCell ⟨b, 0, none⟩ (v0)).setCell ⟨b, 1, none⟩ (v1)).setCell ⟨b, 2, none⟩ (v2)).setCell ⟨b, 3, none⟩ (v3)).setCell ⟨b, 4, none⟩ (v4)) = W) {B : Nat} {o1 o2 : Option Nat} {a : World} (h : But B o1 o2 a w) (hb : b < B) : But B o1 o2 a W := by
  subst hW
  exact ((((h.set (p := ⟨b, 0, none⟩) hb _).set (p := ⟨b, 1, none⟩) hb _).set (p := ⟨b, 2, none⟩) hb _).set (p := ⟨b, 3, none⟩) hb _).set (p := ⟨b, 4, none⟩) hb _
theorem put5_same {w W : World} {b : Nat} {v0 v1 v2 v3 v4 : Value} (hW : (((((w.setCell ⟨b, 0, none⟩ (v0)).setCell ⟨b, 1, none⟩ (v1)).setCell ⟨b, 2, none⟩ (v2)).setCell ⟨b, 3, none⟩ (v3)).setCell ⟨b, 4, none⟩ (v4)) = W) {B : Nat} (hb : b < B) : Same B w W := by
  subst hW
  exact (((((Same.refl B w).set (p := ⟨b, 0, none⟩) hb _).set (p := ⟨b, 1, none⟩) hb _).set (p := ⟨b, 2, none⟩) hb _).set (p := ⟨b, 3, none⟩) hb _).set (p := ⟨b, 4, none⟩) hb _

end Go.Proofs.Ytgmnknlnlmcmfaa
