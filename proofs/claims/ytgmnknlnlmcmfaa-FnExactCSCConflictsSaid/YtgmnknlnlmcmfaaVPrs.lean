/- A RANGE OVER A FUNCTION whose iterator says, at its end, what the world holds of the elements that it gave (the iterator's own blocks, which the rounds have kept).
   PAIRS: all (i, k) with i < k < n of which something holds, in order. -/
import Derived.RangeFuncBound
import Derived.RangeFuncCalls
import Derived.RangeFuncFrom
import Derived.RangeFuncBox
import Derived.Test.YtgmnknlnlmcmfaaVInts
namespace Go.Proofs.Ytgmnknlnlmcmfaa
open Go.RowKit

/-- the iterator's word: all have come, and S holds of them in the world behind; or a round has said 'no more' -/
def Tells {α : Type} (n : Nat) (P : Program) (g : Nat) (lb : Array Value) (encs : α → Array Value) (Kp : World → World → Prop) (S : List α → World → Prop) (Sp : List α → Prop) (N : Nat) (w : World) : Prop :=
  ∀ (l : Nat) (J Jx : List α → World → Prop) (W : World), Below w.heap.size w W → AbidesFrom W.heap.size J → AbidesFrom W.heap.size Jx →
    (∀ pre x W1, J pre W1 → pre.length < N → YieldAt Fence.wide (n - 1) P l (encs x) W1 fun e W' =>
      (e = .returned (.bool true) ∧ J (pre ++ [x]) W' ∧ Kp W1 W') ∨ (e = .returned (.bool false) ∧ Jx (pre ++ [x]) W')) →
    J [] W →
    CallsIn Fence.wide n P g (#[.func (.yield l) #[] #[]] ++ lb) W fun e W' => (∃ v, e = .returned v) ∧ ((∃ xs, S xs W' ∧ J xs W') ∨ (∃ pre, Sp pre ∧ Jx pre W'))

section law
variable {α : Type} {n : Nat} {P : Program} {g : Operand} {ps : Array Tmp} {assign body : Code} {Q : Exit → Act → World → Prop} {a : Act} {w : World} {gf : Nat} {lb : Array Value} {encs : α → Array Value} {Kp : World → World → Prop} {S : List α → World → Prop} {Sp : List α → Prop} {N : Nat}

/-- the loop's record, in each of its states -/
def recOf (fn : FuncId) (tmps : Array Value) (ps : Array Tmp) (assign body : Code) (D : Nat) (st : LoopState) (pe : Option Code) : Loop :=
  { state := st, pending := pe, fn, tmps, params := ps, assign, body, defers := D }
/-- between two rounds: the caller's I, the record ready, the block of deferred calls empty -/
def Betw (I : List α → World → Prop) (R : LoopState → Option Code → Loop) (D : Nat) (pre : List α) (W : World) : Prop :=
  I pre W ∧ W.heap[D + 1]? = some (.loop (R .ready none)) ∧ W.heap[D]? = some (.deferred (some []))
def Left (Ix : Code → List α → World → Prop) (R : LoopState → Option Code → Loop) (D : Nat) (pre : List α) (W : World) : Prop :=
  ∃ c, Ix c pre W ∧ W.heap[D + 1]? = some (.loop (R .done (some c))) ∧ W.heap[D]? = some (.deferred (some []))

theorem betw_abides {I : List α → World → Prop} {R : LoopState → Option Code → Loop} {D B : Nat} (hI : OwnFrom D I) (hB : D ≤ B) : AbidesFrom B (Betw I R D) := fun s A A' row h hg hr =>
  have hr' : ∀ r, row = some r → ∃ o : Obj, A.heap[r]? = some o ∧ o.isWalk = true := fun r e => (hr r e).2
  ⟨hI s A A' row h.1 hg (fun r e => by obtain ⟨h1, o, ho, hw⟩ := hr r e; exact ⟨Nat.le_trans hB h1, o, ho, Obj.not_cells_of_walk hw⟩), (grownBy_keeps hg hr' h.2.1 rfl).trans h.2.1, (grownBy_keeps hg hr' h.2.2 rfl).trans h.2.2⟩
theorem left_abides {Ix : Code → List α → World → Prop} {R : LoopState → Option Code → Loop} {D B : Nat} (hI : ∀ c, OwnFrom D (Ix c)) (hB : D ≤ B) : AbidesFrom B (Left Ix R D) := fun s A A' row h hg hr => by
  have hr' : ∀ r, row = some r → ∃ o : Obj, A.heap[r]? = some o ∧ o.isWalk = true := fun r e => (hr r e).2
  obtain ⟨c, h0, h1, h2⟩ := h
  exact ⟨c, hI c s A A' row h0 hg (fun r e => by obtain ⟨h1, o, ho, hw⟩ := hr r e; exact ⟨Nat.le_trans hB h1, o, ho, Obj.not_cells_of_walk hw⟩), (grownBy_keeps hg hr' h1 rfl).trans h1, (grownBy_keeps hg hr' h2 rfl).trans h2⟩

theorem wp_told (h1 : 1 ≤ n) (hg : a.eval g = .func (.func gf) #[] lb) (eg : ∀ args w, (callFunc gf args).run P w = .ok (.enter gf args) w)
    (hseq : Tells (n - 1) P gf lb encs Kp S Sp N w) (hKt : ∀ {A B C : World}, Kp A B → Kp B C → Kp A C)
    (hKb : ∀ (W : World) (l : Nat) (o o' : Obj), w.heap.size ≤ l → W.heap[l]? = some o → o.isCells = false → o.isWalk = false → Kp W (W.putObj l o')) (hps : ∀ x, (encs x).size = ps.size)
    (I : List α → World → Prop) (Ix : Code → List α → World → Prop) (hI : OwnFrom w.heap.size I) (hIx : ∀ c, OwnFrom w.heap.size (Ix c)) (hS : OwnFrom w.heap.size S) (h0 : I [] w) (a₁ : α → Act)
    (hassign : ∀ (l : Nat) (x : α) (W : World) (K : Act → World → Prop), K (a₁ x) W →
      assign.wpIn (Fence.wide.inRound l) (n - 1 - 1) P (Exit.then K (fun _ _ _ => False)) { tmps := (ps.zip (encs x)).foldl (fun t (p, v) => t.setIfInBounds p v) a.tmps, defers := [] } W)
    (hbody : ∀ (l : Nat) (pre : List α) (x : α) (W : World), I pre W → pre.length < N → body.wpIn (Fence.wide.inRound l) (n - 1 - 1) P (ownPostK Kp I Ix (pre ++ [x]) W) (a₁ x) W)
    (hdone : ∀ (D : Nat) (xs : List α) (W : World), w.heap.size ≤ D → S xs W → I xs W → W.heap[D]? = some (.deferred (some [])) → Q .normal { a with defers := { target := .collected D, args := #[] } :: a.defers } W)
    (hstop : ∀ (D : Nat) (c : Code) (pre : List α) (W : World), w.heap.size ≤ D → Sp pre → Ix c pre W → W.heap[D]? = some (.deferred (some [])) → c.wpIn Fence.wide n P Q { a with defers := { target := .collected D, args := #[] } :: a.defers } W) :
    (Code.rangeFunc g ps assign body).wpIn Fence.wide n P Q a w := by
  refine wpIn_rangeFunc fun fn _ => ?_
  obtain ⟨D, hD⟩ : ∃ D, D = w.heap.size := ⟨_, rfl⟩
  obtain ⟨R, hR⟩ : ∃ R, R = recOf fn a.tmps ps assign body D := ⟨_, rfl⟩
  obtain ⟨W1, hW1⟩ : ∃ W1, (w.alloc (.deferred (some []))).alloc (.loop (R .ready none)) = W1 := ⟨_, rfl⟩
  have z1 : W1.heap.size = D + 2 := by rw [← hW1, hD]; simp
  have e1 : W1.heap[D + 1]? = some (.loop (R .ready none)) := by
    have := World.alloc_heap_new (w.alloc (.deferred (some []))) (.loop (R .ready none))
    rw [World.size_alloc] at this
    rw [← hW1, hD]; exact this
  have e0 : W1.heap[D]? = some (.deferred (some [])) := by
    rw [← hW1, hD]; exact (Below.heap_alloc _ _ _ (by simp)).trans (World.alloc_heap_new w _)
  have b1 : Below w.heap.size w W1 := by rw [← hW1]; exact ((Below.refl _ w).alloc (Nat.le_refl _) _).alloc (by simp) _
  have i1 : I [] W1 := by rw [← hW1]; exact hI.alloc _ (hI.alloc _ h0)
  rw [← hD] at hI hIx hS hKb hdone hstop
  refine ⟨D + 1, [{ target := .collected D, args := #[] }], W1, { target := .fn (.func gf) lb, args := #[.func (.yield (D + 1)) #[] #[]] }, W1, gf, #[.func (.yield (D + 1)) #[] #[]] ++ lb, W1, ?_, ?_, fun _ _ => trivial, ?_, fun _ => h1, ?_⟩
  · rw [← hW1, hR, hD]; exact run_enterLoop_outer _ _ _ _ _
  · simp only [resolve, hg]
    simp [go_sem]
  · simp [invoke, go_sem, eg]
  refine (hseq (D + 1) (Betw I R D) (Left Ix R D) W1 b1 (betw_abides hI (by omega)) (left_abides hIx (by omega)) ?_ ⟨i1, e1, e0⟩).mono ?_
  · rintro pre x W ⟨hi, hl, hk⟩ hlen
    have hlt : D + 1 < W.heap.size := (Array.getElem?_eq_some_iff.1 hl).1
    have hy := run_yield (P := P) (args := encs x) hl (by rw [hR]; exact hps x)
    rw [hR] at hy
    have hb := run_beginRound (P := P) hl (by rw [hR]; rfl)
    obtain ⟨RB, hRB⟩ : ∃ r, r = ({ R .ready none with state := .busy } : Loop) := ⟨_, rfl⟩
    rw [← hRB] at hb
    refine ⟨fn, _, assign, body, hy, roundIn_of_wpIn trivial (hassign _ x W _ ⟨_, hb, ?_⟩)⟩
    have hl2 : (W.putObj (D + 1) (.loop RB)).heap[D + 1]? = some (.loop RB) := World.putObj_heap_same hlt
    have hk2 : (W.putObj (D + 1) (.loop RB)).heap[D]? = some (.deferred (some [])) := (World.putObj_heap_other (by omega)).trans hk
    have hw2 : Kp W (W.putObj (D + 1) (.loop RB)) := hKb _ _ _ _ (by omega) hl rfl rfl
    refine wpIn_mono (hbody _ pre x _ (hI.putObj _ hi (by omega) hl rfl) hlen) ?_
    -- behind the body: the record is put back
    have fin : ∀ (j : Option Code) (W3 : World), KeepsOthers (W.putObj (D + 1) (.loop RB)) W3 → ∃ st, st = (if j.isNone then LoopState.ready else .done) ∧
        (Instr.endRound (D + 1) j).run P W3 = .ok (.bool j.isNone) (W3.putObj (D + 1) (.loop (R st j))) ∧ W3.heap[D + 1]? = some (.loop RB) ∧
        (W3.putObj (D + 1) (.loop (R st j))).heap[D + 1]? = some (.loop (R st j)) ∧ (W3.putObj (D + 1) (.loop (R st j))).heap[D]? = some (.deferred (some [])) := fun j W3 hk3 => by
      have hl3 := hk3.same _ _ hl2 rfl
      have hr := run_endRound (P := P) j hl3
      have he : ({ RB with state := if j.isNone then .ready else .done, pending := j } : Loop) = R (if j.isNone then .ready else .done) j := by rw [hRB, hR]; rfl
      rw [he] at hr
      exact ⟨_, rfl, hr, hl3, World.putObj_heap_same (Array.getElem?_eq_some_iff.1 hl3).1, (World.putObj_heap_other (by omega)).trans (hk3.same _ _ hk2 rfl)⟩
    intro e a3 W3 hp
    cases e with
    | normal =>
      obtain ⟨hk3, hkp3, hi3⟩ := hp
      obtain ⟨st, rfl, hr, hl3, hl4, hk4⟩ := fin none W3 hk3
      exact ⟨_, _, hr, .inl ⟨rfl, ⟨hI.putObj _ hi3 (by omega) hl3 rfl, hl4, hk4⟩, hKt (hKt hw2 hkp3) (hKb _ _ _ _ (by omega) hl3 rfl rfl)⟩⟩
    | panic ch => exact hp.elim
    | outgrown => exact hp.elim
    | ret =>
      obtain ⟨hk3, hi3⟩ := hp
      obtain ⟨st, rfl, hr, hl3, hl4, hk4⟩ := fin (some .ret) W3 hk3
      exact ⟨_, _, hr, .inr ⟨rfl, _, (hIx _).putObj _ hi3 (by omega) hl3 rfl, hl4, hk4⟩⟩
    | exit id =>
      obtain ⟨hk3, hi3⟩ := hp
      obtain ⟨st, rfl, hr, hl3, hl4, hk4⟩ := fin (some (.exit id)) W3 hk3
      exact ⟨_, _, hr, .inr ⟨rfl, _, (hIx _).putObj _ hi3 (by omega) hl3 rfl, hl4, hk4⟩⟩
    | goto t =>
      obtain ⟨hk3, hi3⟩ := hp
      obtain ⟨st, rfl, hr, hl3, hl4, hk4⟩ := fin (some (.goto t)) W3 hk3
      exact ⟨_, _, hr, .inr ⟨rfl, _, (hIx _).putObj _ hi3 (by omega) hl3 rfl, hl4, hk4⟩⟩
  · rintro e W2 ⟨⟨v, rfl⟩, ⟨xs, hs, hi, hl, hk⟩ | ⟨pre, hsp, c, hi, hl, hk⟩⟩
    · have hend := run_endLoop (P := P) hl (by rw [hR]; simp [recOf])
      rw [show (R .ready none).pending = none by rw [hR]; rfl] at hend
      exact ⟨none, _, hend, hdone D xs _ (Nat.le_refl _) (hS.putObj _ hs (by omega) hl rfl) (hI.putObj _ hi (by omega) hl rfl) ((World.putObj_heap_other (by omega)).trans hk)⟩
    · have hend := run_endLoop (P := P) hl (by rw [hR]; simp [recOf])
      rw [show (R .done (some c)).pending = some c by rw [hR]; rfl] at hend
      exact ⟨some c, _, hend, hstop D c pre _ (Nat.le_refl _) hsp ((hIx c).putObj _ hi (by omega) hl rfl) ((World.putObj_heap_other (by omega)).trans hk)⟩
end law

end Go.Proofs.Ytgmnknlnlmcmfaa

namespace Go.Proofs.Ytgmnknlnlmcmfaa
open Go.RowKit

/-- the pairs of one i, up to k -/
def prRow (f : Nat → Nat → Bool) (i : Nat) : Nat → List (Nat × Nat)
  | 0 => []
  | k + 1 => if i < k ∧ f i k = true then prRow f i k ++ [(i, k)] else prRow f i k
/-- the pairs of all before i -/
def prTo (f : Nat → Nat → Bool) (n : Nat) : Nat → List (Nat × Nat)
  | 0 => []
  | i + 1 => prTo f n i ++ prRow f i n
def prL (f : Nat → Nat → Bool) (n : Nat) : List (Nat × Nat) := prTo f n n
theorem prRow_start {f : Nat → Nat → Bool} {i : Nat} : ∀ {k : Nat}, k ≤ i + 1 → prRow f i k = []
  | 0, _ => rfl
  | k + 1, h => by
    show (if i < k ∧ f i k = true then _ else _) = _
    rw [if_neg (by omega)]
    exact prRow_start (by omega)
theorem prRow_yes {f : Nat → Nat → Bool} {i k : Nat} (h : i < k) (hf : f i k = true) : prRow f i (k + 1) = prRow f i k ++ [(i, k)] := by
  show (if i < k ∧ f i k = true then _ else _) = _
  rw [if_pos ⟨h, hf⟩]
theorem prRow_no {f : Nat → Nat → Bool} {i k : Nat} (hf : f i k = false) : prRow f i (k + 1) = prRow f i k := by
  show (if i < k ∧ f i k = true then _ else _) = _
  rw [if_neg (by rw [hf]; simp)]
theorem prRow_length (f : Nat → Nat → Bool) (i : Nat) : ∀ k, (prRow f i k).length ≤ k
  | 0 => Nat.le_refl _
  | k + 1 => by
    have := prRow_length f i k
    show (if i < k ∧ f i k = true then prRow f i k ++ [(i, k)] else prRow f i k).length ≤ _
    split
    · rw [List.length_append]; simp; omega
    · omega
theorem prTo_succ (f : Nat → Nat → Bool) (n i : Nat) : prTo f n (i + 1) = prTo f n i ++ prRow f i n := rfl
theorem prTo_length (f : Nat → Nat → Bool) (n : Nat) : ∀ i, (prTo f n i).length ≤ i * n
  | 0 => Nat.zero_le _
  | i + 1 => by
    have h1 := prTo_length f n i
    have h2 := prRow_length f i n
    rw [prTo_succ, List.length_append, Nat.succ_mul]
    omega
theorem prRow_congr {f g : Nat → Nat → Bool} {i : Nat} : ∀ {k : Nat}, (∀ j, i < j → j < k → f i j = g i j) → prRow f i k = prRow g i k
  | 0, _ => rfl
  | k + 1, h => by
    have ih := prRow_congr (f := f) (g := g) (i := i) (k := k) (fun j h1 h2 => h j h1 (by omega))
    show (if i < k ∧ f i k = true then _ else _) = (if i < k ∧ g i k = true then _ else _)
    rw [ih]
    by_cases hik : i < k
    · rw [h k hik (by omega)]
    · rw [if_neg (fun x => hik x.1), if_neg (fun x => hik x.1)]
theorem prTo_congr {f g : Nat → Nat → Bool} {n : Nat} (h : ∀ i j, i < j → j < n → f i j = g i j) : ∀ i, prTo f n i = prTo g n i
  | 0 => rfl
  | i + 1 => by rw [prTo_succ, prTo_succ, prTo_congr h i, prRow_congr (fun j h1 h2 => h i j h1 h2)]
theorem prL_congr {f g : Nat → Nat → Bool} {n : Nat} (h : ∀ i j, i < j → j < n → f i j = g i j) : prL f n = prL g n := prTo_congr h n
theorem prRow_grow (f : Nat → Nat → Bool) (i : Nat) : ∀ {k n : Nat}, k ≤ n → (prRow f i k).length ≤ (prRow f i n).length
  | k, 0, h => by rw [Nat.le_zero.1 h]; exact Nat.le_refl _
  | k, n + 1, h => by
    by_cases e : k = n + 1
    · rw [e]; exact Nat.le_refl _
    · have ih := prRow_grow f i (k := k) (n := n) (by omega)
      refine Nat.le_trans ih ?_
      show _ ≤ (if i < n ∧ f i n = true then prRow f i n ++ [(i, n)] else prRow f i n).length
      split
      · rw [List.length_append]; exact Nat.le_add_right _ _
      · exact Nat.le_refl _
theorem prTo_grow (f : Nat → Nat → Bool) (m : Nat) : ∀ {i n : Nat}, i ≤ n → (prTo f m i).length ≤ (prTo f m n).length
  | i, 0, h => by rw [Nat.le_zero.1 h]; exact Nat.le_refl _
  | i, n + 1, h => by
    by_cases e : i = n + 1
    · rw [e]; exact Nat.le_refl _
    · have ih := prTo_grow f m (i := i) (n := n) (by omega)
      rw [prTo_succ, List.length_append]; omega
theorem prL_part {f : Nat → Nat → Bool} {m i k : Nat} (hi : i < m) (hk : k ≤ m) : (prTo f m i ++ prRow f i k).length ≤ (prL f m).length := by
  have h1 := prRow_grow f i hk
  have h2 := prTo_grow f m (i := i + 1) (n := m) hi
  rw [prTo_succ, List.length_append] at h2
  rw [List.length_append]
  show _ ≤ (prTo f m m).length
  omega
/-- a pair as two ints -/
def prI (p : Nat × Nat) : List Int := [(p.1 : Int), (p.2 : Int)]
def prZ (f : Nat → Nat → Bool) (n : Nat) : List (List Int) := (prL f n).map prI
theorem prZ_length (f : Nat → Nat → Bool) (n : Nat) : (prZ f n).length ≤ n * n := by
  unfold prZ; rw [List.length_map]; exact prTo_length f n n
theorem prZ_two {f : Nat → Nat → Bool} {n i : Nat} : ((prZ f n).getD i []).length ≤ 2 := by
  unfold prZ
  rw [List.getD_eq_getElem?_getD, List.getElem?_map]
  cases (prL f n)[i]? with
  | none => simp
  | some p => simp [prI]

end Go.Proofs.Ytgmnknlnlmcmfaa
