/- UNION OF NETS: the data; a row of transitions appended to a row of the call's own. -/
import Derived.Test.YtgmnknlnlmcmfaaVUnb
import Derived.Test.YtgmnknlnlmcmfaaVGeteq
import Derived.Test.YtgmnknlnlmcmfaaVPur
namespace Go.Proofs.Ytgmnknlnlmcmfaa
open Go.RowKit

theorem movI_zero (zs : List Int) : movI zs 0 = zs := by simp [movI]
theorem movTs_zero (ts : List Tr) : movTs ts 0 = ts := by
  have : movT 0 = id := by
    funext t
    unfold movT
    rw [movI_zero, movI_zero]
    rfl
  simp [movTs, this]
/-- the union's transitions -/
def unT (a b : NetD) : List Tr := a.ts ++ movTs b.ts a.places
def unN (a b : NetD) : NetD := ⟨a.places + b.places, unT a b⟩
def unB (a b : NetD) : Bool := goodN a && (goodN b && goodN (unN a b))
def unR (a b : NetD) : NetD := if unB a b = true then unN a b else ⟨0, []⟩
theorem unT_length (a b : NetD) : (unT a b).length = a.ts.length + b.ts.length := by simp [unT, movTs_length]
theorem goodN_low {n : NetD} (h : goodN n = true) : LowTs n.ts := fun i hi => by
  obtain ⟨h0, h1⟩ := goodN_in h hi
  exact ⟨fun j hj => by have := h0 j hj; omega, fun j hj => by have := h1 j hj; omega⟩
theorem append_small {ts us : List Tr} (h : SmallTrs ts) (k : SmallTrs us) (hn : ts.length + us.length ≤ 1048576) : SmallTrs (ts ++ us) := by
  refine ⟨by simpa using hn, fun i hi => ?_⟩
  by_cases e : i < ts.length
  · have := h.2 i e
    simpa [List.getD, List.getElem?_append_left e] using this
  · have hl : i - ts.length < us.length := by simp at hi; omega
    have := k.2 (i - ts.length) hl
    simpa [List.getD, List.getElem?_append_right (Nat.le_of_not_lt e)] using this
theorem unT_small {a b : NetD} (ha : SmallTrs a.ts) (hb : SmallTrs b.ts) (hga : goodN a = true) (hgb : goodN b = true) : SmallTrs (unT a b) := by
  have h1 := (goodN_parts hga).2.2.1
  have h2 := (goodN_parts hgb).2.2.1
  exact append_small ha (movTs_small hb) (by rw [movTs_length]; omega)

/-- the cells xs hold m transitions, their lists apart, each between two of the numbers c -/
def SepXs (c : Nat → Nat) (w : World) (xs : List Value) (m : Nat) (ts : List Tr) : Prop :=
  (∀ i, c i ≤ c (i + 1)) ∧ xs.length = m * 2 ∧ ∀ i, i < m → ∃ v0 v1, xs[i * 2]? = some v0 ∧ xs[i * 2 + 1]? = some v1 ∧
    (IntsOw (c (2 * i)) w v0 (ts.getD i ([], [])).1 ∧ Bound (c (2 * i + 1)) v0) ∧ IntsOw (c (2 * i + 1)) w v1 (ts.getD i ([], [])).2 ∧ Bound (c (2 * i + 2)) v1
theorem SepXs.keep {c : Nat → Nat} {w w' : World} {xs : List Value} {m : Nat} {ts : List Tr} (h : SepXs c w xs m ts) (hs : ∀ i, Same (c i) w w') : SepXs c w' xs m ts := by
  obtain ⟨hc, hl, hx⟩ := h
  refine ⟨hc, hl, fun i hi => ?_⟩
  obtain ⟨v0, v1, e0, e1, ⟨h0, b0⟩, h1, b1⟩ := hx i hi
  exact ⟨v0, v1, e0, e1, ⟨h0.keep (hs _), b0⟩, h1.keep (hs _), b1⟩
theorem SepXs.one {c : Nat → Nat} {w : World} {xs : List Value} {m : Nat} {ts : List Tr} (h : SepXs c w xs m ts) : ∀ u ∈ xs, u.oneCell' = true := by
  obtain ⟨_, hl, hx⟩ := h
  intro u hu
  obtain ⟨j, hj, he⟩ := List.getElem_of_mem hu
  obtain ⟨v0, v1, e0, e1, ⟨h0, _⟩, h1, _⟩ := hx (j / 2) (by omega)
  obtain ⟨_, _, rfl, _, _⟩ := h0
  obtain ⟨_, _, rfl, _, _⟩ := h1
  have hu : xs[j]? = some u := by rw [List.getElem?_eq_getElem hj, he]
  rcases Nat.mod_two_eq_zero_or_one j with hm | hm
  · rw [show j / 2 * 2 = j by omega, hu] at e0
    injection e0 with e0
    rw [e0]; rfl
  · rw [show j / 2 * 2 + 1 = j by omega, hu] at e1
    injection e1 with e1
    rw [e1]; rfl
theorem SepRow.owns {c : Nat → Nat} {R B : Nat} {w : World} {m : Nat} {ts : List Tr} (h : SepRow c R w m m ts) (hB : B ≤ R) (hm : m ≤ 1048576) :
    ∃ xs, w.ownsRow B 176 2 (.slice (some ⟨R, 0, none⟩) m m) m xs ∧ (∀ (j : Nat) u, xs[j]? = some u → w.cell? ⟨R, j, none⟩ = some u) ∧ SepXs c w xs m ts := by
  obtain ⟨hc, f, ⟨cur, hb, hsz, hcell⟩, hx⟩ := h
  have hl : cur.toList.length = m * 2 := by simpa using hsz
  refine ⟨cur.toList, ⟨hl, Or.inr ⟨R, m, cur, rfl, hB, hb, Nat.le_refl _, by unfold maxLen; omega, hsz, by rw [← hl]; exact List.take_length⟩⟩, fun j u hj => ?_, hc, hl, fun i hi => ?_⟩
  · simp at hj
    simp [World.cell?, hb, hj]
  · refine ⟨_, _, ?_, ?_, hx i hi⟩
    · simpa using hcell (i * 2) (by omega)
    · simpa using hcell (i * 2 + 1) (by omega)
theorem SepXs.append {c d : Nat → Nat} {w : World} {xs ys : List Value} {m n : Nat} {ts us : List Tr} (h : SepXs c w xs m ts) (k : SepXs d w ys n us) (hm : ts.length = m) (hcd : ∀ i, c i ≤ d 0) {lo hi : Nat} (h0 : lo ≤ c 0) (hhi : ∀ i, d i ≤ hi) :
    ∃ e : Nat → Nat, lo ≤ e 0 ∧ (∀ i, e i ≤ hi) ∧ SepXs e w (xs ++ ys) (m + n) (ts ++ us) := by
  obtain ⟨hc, hl, hx⟩ := h
  obtain ⟨hd, hl', hy⟩ := k
  have hd0 : ∀ i, d 0 ≤ d i := fun i => mono_le hd (Nat.zero_le i)
  refine ⟨fun i => if i < 2 * m then c i else d (i - 2 * m), ?_, fun i => ?_, fun i => ?_, by simp [hl, hl']; omega, fun i hi => ?_⟩
  · dsimp only
    split
    · exact h0
    · have := hcd 0; have := hd0 (0 - 2 * m); omega
  · dsimp only
    split
    · have := hcd i; have := hhi 0; omega
    · exact hhi _
  · dsimp only
    by_cases e1 : i + 1 < 2 * m
    · rw [if_pos e1, if_pos (by omega)]; exact hc i
    · rw [if_neg e1]
      by_cases e2 : i < 2 * m
      · rw [if_pos e2]; have := hcd i; have := hd0 (i + 1 - 2 * m); omega
      · rw [if_neg e2, show i + 1 - 2 * m = (i - 2 * m) + 1 by omega]; exact hd _
  · dsimp only
    by_cases e : i < m
    · obtain ⟨v0, v1, e0, e1, ⟨g0, b0⟩, g1, b1⟩ := hx i e
      have ht : (ts ++ us).getD i ([], []) = ts.getD i ([], []) := by simp [List.getD, List.getElem?_append_left (show i < ts.length by omega)]
      rw [ht, if_pos (show 2 * i < 2 * m by omega), if_pos (show 2 * i + 1 < 2 * m by omega)]
      refine ⟨v0, v1, by rw [List.getElem?_append_left (by omega)]; exact e0, by rw [List.getElem?_append_left (by omega)]; exact e1, ⟨g0, b0⟩, g1, ?_⟩
      by_cases e2 : 2 * i + 2 < 2 * m
      · rw [if_pos e2]; exact b1
      · rw [if_neg e2]
        exact fun b off len cap hv hp => by have := b1 b off len cap hv hp; have := hcd (2 * i + 2); have := hd0 (2 * i + 2 - 2 * m); omega
    · obtain ⟨v0, v1, e0, e1, ⟨g0, b0⟩, g1, b1⟩ := hy (i - m) (by omega)
      have ht : (ts ++ us).getD i ([], []) = us.getD (i - m) ([], []) := by simp [List.getD, List.getElem?_append_right (show ts.length ≤ i by omega), hm]
      rw [ht, if_neg (show ¬ 2 * i < 2 * m by omega), if_neg (show ¬ 2 * i + 1 < 2 * m by omega), if_neg (show ¬ 2 * i + 2 < 2 * m by omega), show 2 * i - 2 * m = 2 * (i - m) by omega, show 2 * i + 1 - 2 * m = 2 * (i - m) + 1 by omega, show 2 * i + 2 - 2 * m = 2 * (i - m) + 2 by omega]
      refine ⟨v0, v1, ?_, ?_, ⟨g0, b0⟩, g1, b1⟩
      · rw [List.getElem?_append_right (by omega), hl, show i * 2 - m * 2 = (i - m) * 2 by omega]; exact e0
      · rw [List.getElem?_append_right (by omega), hl, show i * 2 + 1 - m * 2 = (i - m) * 2 + 1 by omega]; exact e1
theorem SepXs.read {c : Nat → Nat} {B : Nat} {w : World} {xs : List Value} {v : Value} {ts : List Tr} (h : SepXs c w xs ts.length ts) (hown : w.ownsRow B 176 2 v ts.length xs) : TrsSep c w v ts := by
  obtain ⟨hc, hl, hx⟩ := h
  have h0 := hown
  rcases hown.2 with ⟨rfl, hn⟩ | ⟨g, cap, cur, rfl, hb, hg, hnc, _⟩
  · have hz : ts = [] := List.eq_nil_of_length_eq_zero hn
    subst hz
    exact ⟨hc, _, _, rfl, Nat.le_refl _, Or.inl rfl⟩
  · refine ⟨hc, _, _, rfl, hnc, Or.inr ⟨g, 0, rfl, fun i hi => ?_⟩⟩
    obtain ⟨v0, v1, e0, e1, q⟩ := hx i hi
    refine ⟨v0, v1, ?_, ?_, q⟩
    · rw [Nat.zero_add, h0.cellAt (i * 2) (by omega)]; exact e0
    · rw [Nat.zero_add, h0.cellAt (i * 2 + 1) (by omega)]; exact e1

theorem SepXs.readAt {c : Nat → Nat} {B lo : Nat} {w : World} {xs : List Value} {v : Value} {ts : List Tr} (h : SepXs c w xs ts.length ts) (hown : w.ownsRow B 176 2 v ts.length xs) (hB : lo ≤ B) (hc0 : lo ≤ c 0) : TrsAt lo w v ts := by
  obtain ⟨hc, hl, hx⟩ := h
  have h0 := hown
  rcases hown.2 with ⟨rfl, hn⟩ | ⟨g, cap, cur, rfl, hb, hg, hnc, _⟩
  · have hz : ts = [] := List.eq_nil_of_length_eq_zero hn
    subst hz
    exact ⟨_, _, rfl, Nat.le_refl _, Or.inl rfl⟩
  · refine ⟨_, _, rfl, hnc, Or.inr ⟨g, 0, rfl, Nat.le_trans hB hb, fun i hi => ?_⟩⟩
    obtain ⟨v0, v1, e0, e1, ⟨q0, _⟩, q1, _⟩ := hx i hi
    have m0 := mono_le hc (Nat.zero_le (2 * i))
    have m1 := mono_le hc (Nat.zero_le (2 * i + 1))
    refine ⟨v0, v1, ?_, ?_, q0.at.low (Nat.le_trans hc0 m0), q1.at.low (Nat.le_trans hc0 m1)⟩
    · rw [Nat.zero_add, h0.cellAt (i * 2) (by omega)]; exact e0
    · rw [Nat.zero_add, h0.cellAt (i * 2 + 1) (by omega)]; exact e1

theorem wp_append_trs {o : Oper} {a : Act} {w : World} {K : Act → World → Prop} {Q : Exit → Act → World → Prop} (s x : Operand)
    (ho : o.op = .call { callee := .builtin .append, args := #[s, x], argTypes := #[58, 58] })
    (base : Nat) (v : Value) (n : Nat) (xs : List Value) (hs : a.eval s = v) (hown : w.ownsRow base 176 2 v n xs) (b m c : Nat) (us : List Value) (hx : a.eval x = .slice (some ⟨b, 0, none⟩) m c)
    (hl : us.length = m * 2) (hus : ∀ (j : Nat) u, us[j]? = some u → w.cell? ⟨b, j, none⟩ = some u) (h1 : ∀ u ∈ us, u.oneCell' = true) (hn : n + m ≤ 1073741824) (hbase : base ≤ w.heap.size)
    (h : ∀ v' w', w'.ownsRow base 176 2 v' (n + m) (xs ++ us) → w.grownBy w' v.ownBlock → K (a.put o.dst v') w') : o.wp Try.prog a w K Q := by
  obtain ⟨i, hi, hzz⟩ := Option.map_eq_some_iff.1 Try.infoTr
  simp only [Prod.mk.injEq] at hzz
  obtain ⟨hz, hsz, hby⟩ := hzz
  obtain ⟨v', w', hr, h2, h3, _⟩ := run_append_own (P := Try.prog) w base 58 o.type 176 i _ 2 48 Try.underlying58 hi hz hsz hby rfl (by omega) v n xs hown ⟨b, 0, none⟩ m c us
    hl (fun j u hj => by rw [Addr.add_mid, Nat.zero_add]; exact hus j u hj) h1 (by unfold maxLen; omega) (by omega) hbase
  unfold Oper.wp execOp
  simp only [ho, resolve, invoke, builtin, Sem.run_bind, Sem.run_pure, Result.andThen_ok, List.map_toArray, List.map_cons, List.map_nil, hs, hx, hr]
  exact h v' w' h2 h3

end Go.Proofs.Ytgmnknlnlmcmfaa
