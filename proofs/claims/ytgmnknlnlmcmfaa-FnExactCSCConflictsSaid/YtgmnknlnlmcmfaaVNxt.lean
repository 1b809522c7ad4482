/- APPEND of ints onto a slice of the call's own; the walks l1Own, l1Both.
   ROWS OF SLICES OF INTS that grow one by one (a slice of slices whose elements are appended to): what they are, one step, what they read as. What a list of moves gives as targets. -/
import Derived.Test.YtgmnknlnlmcmfaaVInts
import Derived.Laws.AppendOwnNone
import Derived.Test.YtgmnknlnlmcmfaaVSteps
import Derived.Test.YtgmnknlnlmcmfaaVRgd
import Derived.Deep.AppendLies
namespace Go.Proofs.Ytgmnknlnlmcmfaa
open Go.RowKit

/-- the cells of a list of ints -/
def intCells (zs : List Int) : List Value := zs.map (Value.int .i64)
theorem intCells_length (zs : List Int) : (intCells zs).length = zs.length := by simp [intCells]
theorem intCells_append (a b : List Int) : intCells (a ++ b) = intCells a ++ intCells b := by simp [intCells]
theorem intCells_one (zs : List Int) : ∀ u ∈ intCells zs, u.oneCell' = true := by
  intro u hu
  obtain ⟨z, _, rfl⟩ := List.mem_map.1 hu
  rfl
theorem intCells_get {zs : List Int} {i : Nat} (h : i < zs.length) : (intCells zs)[i]? = some (.int .i64 (zs.getD i 0)) := by
  simp [intCells, h, List.getD]

theorem ints_of_owns {w : World} {base : Nat} {v : Value} {zs : List Int} (h : w.ownsRow base 3 1 v zs.length (intCells zs)) : IntsAt base w v zs := by
  have h0 := h
  rcases h.2 with ⟨rfl, hn⟩ | ⟨g, cap, cur, rfl, hb, hg, hnc, _, _, _⟩
  · have hz : zs = [] := List.eq_nil_of_length_eq_zero hn
    subst hz
    exact ⟨_, _, rfl, Nat.le_refl _, Or.inl rfl⟩
  · refine ⟨_, _, rfl, hnc, Or.inr ⟨g, 0, rfl, hb, fun i hi => ?_⟩⟩
    rw [Nat.zero_add, h0.cellAt i (by omega)]
    exact intCells_get hi

theorem run_append_ints (w : World) (ty : TypeId) (base lo : Nat) (v : Value) (n : Nat) (xs : List Value) (hown : w.ownsRow base 3 1 v n xs) (src : Value) (zs : List Int) (hsrc : IntsAt lo w src zs)
    (hlen : n + zs.length ≤ 1073741824) (hbase : base ≤ w.heap.size) :
    ∃ v' w', (Builtin.append_ #[28, 28] ty #[v, src]).run Try.prog w = .ok v' w' ∧ w'.ownsRow base 3 1 v' (n + zs.length) (xs ++ intCells zs) ∧ w.grownBy w' v.ownBlock := by
  obtain ⟨i, hi, hzz⟩ := Option.map_eq_some_iff.1 Try.infoInt
  simp only [Prod.mk.injEq] at hzz
  obtain ⟨hz, hs, hby⟩ := hzz
  obtain ⟨ao, cap, rfl, hc, hcase⟩ := hsrc
  rcases hcase with rfl | ⟨b, off, rfl, _, hcell⟩
  · have hrun : (Builtin.append_ #[28, 28] ty #[v, .slice ao 0 cap]).run Try.prog w = .ok v w := by
      rcases hown.2 with ⟨rfl, rfl⟩ | ⟨g, cap', cur, rfl, _, _, hnc, _⟩
      · cases ao <;> simp [Builtin.append_, run_underlying Try.underlying28, sizeOf, typeInfo, hi, Builtin.lenOf, Builtin.firstCells, loadCells, loadCellsFrom]
      · cases ao <;> simp [Builtin.append_, run_underlying Try.underlying28, sizeOf, typeInfo, hi, Builtin.lenOf, Builtin.firstCells, hnc, storeCells, loadCells, loadCellsFrom]
    exact ⟨v, w, hrun, by simpa [intCells] using hown, ⟨rfl, rfl, rfl, Nat.le_refl _, fun _ _ _ => rfl⟩⟩
  · obtain ⟨v', w', hr, h2, h3, _⟩ := run_append_own (P := Try.prog) w base 28 ty 3 i _ 1 8 Try.underlying28 hi hz hs hby rfl (by omega) v n xs hown ⟨b, off, none⟩ zs.length cap (intCells zs)
      (by rw [intCells_length, Nat.mul_one]) (fun j u hj => by
        have hjl : j < zs.length := by rw [← intCells_length]; exact (List.getElem?_eq_some_iff.1 hj).1
        rw [intCells_get hjl] at hj
        rw [Addr.add_mid, hcell j hjl]
        exact hj) (intCells_one zs) (by unfold maxLen; omega) (by omega) hbase
    exact ⟨v', w', hr, h2, h3⟩

theorem wp_append_ints {o : Oper} {a : Act} {w : World} {K : Act → World → Prop} {Q : Exit → Act → World → Prop} (s x : Operand)
    (ho : o.op = .call { callee := .builtin .append, args := #[s, x], argTypes := #[28, 28] })
    (base lo : Nat) (v : Value) (n : Nat) (xs : List Value) (hs : a.eval s = v) (hown : w.ownsRow base 3 1 v n xs) (src : Value) (zs : List Int) (hx : a.eval x = src) (hsrc : IntsAt lo w src zs)
    (hlen : n + zs.length ≤ 1073741824) (hbase : base ≤ w.heap.size)
    (h : ∀ v' w', w'.ownsRow base 3 1 v' (n + zs.length) (xs ++ intCells zs) → w.grownBy w' v.ownBlock → K (a.put o.dst v') w') : o.wp Try.prog a w K Q := by
  obtain ⟨v', w', hr, h2, h3⟩ := run_append_ints w o.type base lo v n xs hown src zs hsrc hlen hbase
  unfold Oper.wp execOp
  simp only [ho, resolve, invoke, builtin, Sem.run_bind, Sem.run_pure, Result.andThen_ok, List.map_toArray, List.map_cons, List.map_nil, hs, hx, hr]
  exact h v' w' h2 h3

theorem wpList_append_ints {ops : Array Oper} {rest : List Oper} {o : Oper} {a : Act} {w : World} {Q : Exit → Act → World → Prop} (hgd : o.guard = none) (s x : Operand)
    (ho : o.op = .call { callee := .builtin .append, args := #[s, x], argTypes := #[28, 28] })
    (base lo : Nat) (v : Value) (n : Nat) (xs : List Value) (hs : a.eval s = v) (hown : w.ownsRow base 3 1 v n xs) (src : Value) (zs : List Int) (hx : a.eval x = src) (hsrc : IntsAt lo w src zs)
    (hlen : n + zs.length ≤ 1073741824) (hbase : base ≤ w.heap.size)
    (h : ∀ v' w', w'.ownsRow base 3 1 v' (n + zs.length) (xs ++ intCells zs) → w.grownBy w' v.ownBlock → wpList Try.prog ops Q rest (a.put o.dst v') w') : wpList Try.prog ops Q (o :: rest) a w :=
  wpList_plain hgd fun _ hK => wp_append_ints s x ho base lo v n xs hs hown src zs hx hsrc hlen hbase fun v' w' h2 h3 => hK _ _ (h v' w' h2 h3)

/-- a call returns a slice that it owns -/
def RetOwn (w : World) (zs : List Int) (e : Ending) (w' : World) : Prop := ∃ v, e = .returned v ∧ w'.ownsRow w.heap.size 3 1 v zs.length (intCells zs) ∧ Below w.heap.size w w'

set_option maxRecDepth 100000 in
set_option maxHeartbeats 400000 in
theorem l1Own_any (v : Value) (zs : List Int) (w : World) (lo : Nat) (hv : IntsAt lo w v zs) (hn : zs.length ≤ 4194304) :
    Calls Try.prog 190 #[v] w (RetOwn w zs) := by
  have hv' := hv
  obtain ⟨ao, cap, rfl, _, _⟩ := hv'
  have HV := Lib.hid hv; clear hv
  go_enter Try.func190, Try.ntmps190
  have hown : (w.alloc (.cells #[] 3)).ownsRow w.heap.size 3 1 (.slice (some ⟨w.heap.size, 0, none⟩) 0 0) 0 [] :=
    ⟨rfl, Or.inr ⟨w.heap.size, 0, #[], rfl, Nat.le_refl _, heap_alloc_new w _, Nat.le_refl _, Nat.zero_le _, rfl, rfl⟩⟩
  have HO := Lib.hid hown; clear hown
  have hsrc := Lib.hid (HV.out.keep (Carries.alloc (Carries.refl lo w) (.cells #[] 3)))
  go_wp2_with (refine wpList_append_ints rfl (.tmp 3) (.tmp 4) rfl w.heap.size lo _ 0 [] rfl HO.out _ zs rfl hsrc.out (by omega) (by simp) ?_; intro v' w' hown' hgrow)
  go_ret
  refine ⟨_, rfl, ?_, ?_⟩
  · simpa using hown'
  · exact ((Below.refl _ _).alloc (Nat.le_refl _) _).grown hgrow (by simp) (fun k hk => by cases hk; exact Nat.le_refl _)

/-- both lists of a transition -/
def both (t : Tr) : List Int := t.1 ++ t.2

end Go.Proofs.Ytgmnknlnlmcmfaa

namespace Go.Proofs.Ytgmnknlnlmcmfaa
open Go.RowKit

theorem Try.infoInts : (Try.prog.info? 28).map (fun i => (i.zero, i.size, i.bytes)) = some (some (.slice none 0 0), 1, 24) := by kernel_rfl

/-- a slice of slices of ints: what each of the n reads as -/
def NextsAt (lo : Nat) (w : World) (v : Value) (n : Nat) (L : Nat → List Int) : Prop :=
  ∃ b off cap, v = .slice (some ⟨b, off, none⟩) n cap ∧ n ≤ cap ∧ lo ≤ b ∧ ∀ i, i < n → ∃ u, w.cell? ⟨b, off + i, none⟩ = some u ∧ IntsAt lo w u (L i)
theorem NextsAt.keep {lo : Nat} {w w' : World} {v : Value} {n : Nat} {L : Nat → List Int} (h : NextsAt lo w v n L) (hb : Carries lo w w') : NextsAt lo w' v n L := by
  obtain ⟨b, off, cap, hv, hc, hlo, hz⟩ := h
  refine ⟨b, off, cap, hv, hc, hlo, fun i hi => ?_⟩
  obtain ⟨u, hu, ha⟩ := hz i hi
  exact ⟨u, hb _ _ hlo hu, ha.keep hb⟩
theorem NextsAt.low {lo lo' : Nat} {w : World} {v : Value} {n : Nat} {L : Nat → List Int} (h : NextsAt lo w v n L) (hl : lo' ≤ lo) : NextsAt lo' w v n L := by
  obtain ⟨b, off, cap, hv, hc, hlo, hz⟩ := h
  refine ⟨b, off, cap, hv, hc, Nat.le_trans hl hlo, fun i hi => ?_⟩
  obtain ⟨u, hu, ha⟩ := hz i hi
  exact ⟨u, hu, ha.low hl⟩

/-- the call's own row NB of n slices, each the call's own, no two of one array -/
def NextsOw (B NB : Nat) (w : World) (n : Nat) (L : Nat → List Int) (f : Nat → Value) : Prop :=
  w.rowIs NB 28 n f ∧ B ≤ NB ∧ (∀ i, i < n → w.ownsRow B 3 1 (f i) (L i).length (intCells (L i)) ∧ (f i).ownBlock ≠ some NB) ∧
    (∀ i j b, i < n → j < n → i ≠ j → (f i).ownBlock = some b → (f j).ownBlock ≠ some b)
theorem ownsRow_lt {w : World} {B : Nat} {e : TypeId} {sz : Nat} {v : Value} {n : Nat} {xs : List Value} {b : Nat} (h : w.ownsRow B e sz v n xs) (hv : v.ownBlock = some b) : b < w.heap.size := by
  rcases h.2 with ⟨rfl, _⟩ | ⟨g, cap, cur, rfl, _, hg, _⟩
  · simp [Value.ownBlock] at hv
  · simp only [Value.ownBlock, Option.some.injEq] at hv
    subst hv
    exact (Array.getElem?_eq_some_iff.1 hg).1
theorem ownsRow_keep {w w' : World} {B : Nat} {e : TypeId} {sz : Nat} {v : Value} {n : Nat} {xs : List Value} (h : w.ownsRow B e sz v n xs) (hb : ∀ b, v.ownBlock = some b → b < w.heap.size → w'.heap[b]? = w.heap[b]?) : w'.ownsRow B e sz v n xs := by
  refine ⟨h.1, ?_⟩
  rcases h.2 with hn | ⟨g, cap, cur, rfl, hB, hg, rest⟩
  · exact Or.inl hn
  · exact Or.inr ⟨g, cap, cur, rfl, hB, (hb g rfl (Array.getElem?_eq_some_iff.1 hg).1).trans hg, rest⟩
theorem NextsOw.nil (w : World) (n : Nat) : NextsOw w.heap.size w.heap.size (w.alloc (.cells (madeCells #[.slice none 0 0] n) 28)) n (fun _ => []) (fun _ => .slice none 0 0) :=
  ⟨World.rowIs_made _ _ _ _, Nat.le_refl _, fun i _ => ⟨World.ownsRow_nil _ _ _ _, by simp [Value.ownBlock]⟩, fun i j b _ _ _ h => by simp [Value.ownBlock] at h⟩
theorem NextsOw.after {B NB : Nat} {w w' : World} {n : Nat} {L : Nat → List Int} {f : Nat → Value} (h : NextsOw B NB w n L f) (hb : Below w.heap.size w w') : NextsOw B NB w' n L f :=
  ⟨h.1.of_block (hb.block _ h.1.lt), h.2.1, fun i hi => ⟨ownsRow_keep (h.2.2.1 i hi).1 (fun b _ hl => hb.block b hl), (h.2.2.1 i hi).2⟩, h.2.2.2⟩
def updL (L : Nat → List Int) (i : Nat) (x : Int) : Nat → List Int := fun k => if k = i then L k ++ [x] else L k
/-- one slice has been appended to, and stored -/
theorem NextsOw.put {B NB : Nat} {w w' : World} {n : Nat} {L : Nat → List Int} {f : Nat → Value} {i g cap : Nat} {x : Int} {l : Nat} (h : NextsOw B NB w n L f) (hi : i < n) (hl : l = (L i).length + 1)
    (hown : w'.ownsRow B 3 1 (.slice (some ⟨g, 0, none⟩) l cap) l (intCells (L i) ++ [.int .i64 x])) (hg : w.grownBy w' (f i).ownBlock) (hat : (f i).ownBlock = some g ∨ g = w.heap.size) :
    NextsOw B NB (w'.setCell ⟨NB, i, none⟩ (.slice (some ⟨g, 0, none⟩) l cap)) n (updL L i x) (fun k => if k = i then .slice (some ⟨g, 0, none⟩) l cap else f k) := by
  subst hl
  obtain ⟨h1, h2, h3, h4⟩ := h
  have hNB := h1.lt
  have hrow' : w'.rowIs NB 28 n f := h1.of_block (hg.block _ hNB (fun e => (h3 i hi).2 e.symm))
  have hgNB : g ≠ NB := by
    rcases hat with e | e
    · intro e2; subst e2; exact (h3 i hi).2 e
    · omega
  have hgj : ∀ j, j < n → j ≠ i → (f j).ownBlock ≠ some g := by
    intro j hj hne e2
    rcases hat with e | e
    · exact h4 i j g hi hj (fun q => hne q.symm) e e2
    · have := ownsRow_lt (h3 j hj).1 e2; omega
  have hset : ∀ b, b ≠ NB → (w'.setCell ⟨NB, i, none⟩ (.slice (some ⟨g, 0, none⟩) ((L i).length + 1) cap)).heap[b]? = w'.heap[b]? := fun b hb => Below.heap_setCell _ _ _ _ hb
  refine ⟨hrow'.set i _, h2, fun k hk => ?_, fun a c b ha hc hne hb => ?_⟩
  · dsimp only
    by_cases e : k = i
    · subst e
      rw [if_pos rfl]
      have e1 : updL L k x k = L k ++ [x] := by unfold updL; rw [if_pos rfl]
      rw [e1, List.length_append, intCells_append]
      refine ⟨ownsRow_keep hown (fun b hb _ => hset b ?_), ?_⟩
      · simp only [Value.ownBlock, Option.some.injEq] at hb; omega
      · simp only [Value.ownBlock, ne_eq, Option.some.injEq]; exact hgNB
    · rw [if_neg e]
      have e1 : updL L i x k = L k := by unfold updL; rw [if_neg e]
      rw [e1]
      refine ⟨ownsRow_keep (h3 k hk).1 (fun b hb hlt => ?_), (h3 k hk).2⟩
      have hbn : b ≠ NB := fun e2 => (h3 k hk).2 (e2 ▸ hb)
      rw [hset b hbn]
      exact hg.block b hlt (fun e2 => h4 i k b hi hk (fun q => e q.symm) e2.symm hb)
  · dsimp only at hb ⊢
    by_cases ea : a = i
    · subst ea
      rw [if_pos rfl] at hb
      have ec : c ≠ a := fun q => hne q.symm
      rw [if_neg ec]
      simp only [Value.ownBlock, Option.some.injEq] at hb
      rw [← hb]
      exact hgj c hc ec
    · rw [if_neg ea] at hb
      by_cases ec : c = i
      · subst ec
        rw [if_pos rfl]
        simp only [Value.ownBlock, ne_eq, Option.some.injEq]
        intro e2; subst e2
        exact hgj a ha ea hb
      · rw [if_neg ec]
        exact h4 a c b ha hc hne hb
theorem NextsOw.read {B NB : Nat} {w : World} {n : Nat} {L : Nat → List Int} {f : Nat → Value} (h : NextsOw B NB w n L f) : NextsAt B w (.slice (some ⟨NB, 0, none⟩) n n) n L :=
  ⟨NB, 0, n, rfl, Nat.le_refl _, h.2.1, fun i hi => ⟨f i, by rw [Nat.zero_add]; exact h.1.cell hi, ints_of_owns (h.2.2.1 i hi).1⟩⟩

/-- the targets of the first j moves, by where they come from -/
def tgTo (ms : List Mv) : Nat → Nat → List Int
  | 0 => fun _ => []
  | j + 1 => updL (tgTo ms j) (mvF ms j).toNat (mvT ms j)
def tgL (ms : List Mv) : Nat → List Int := tgTo ms ms.length
theorem tgTo_length (ms : List Mv) : ∀ j k, (tgTo ms j k).length ≤ j
  | 0, _ => Nat.le_refl _
  | j + 1, k => by
    have := tgTo_length ms j k
    show (updL (tgTo ms j) _ _ k).length ≤ _
    unfold updL
    split
    · rw [List.length_append]; simp; omega
    · omega
theorem mem_tgTo {ms : List Mv} {k : Nat} {x : Int} : ∀ j, x ∈ tgTo ms j k ↔ ∃ i, i < j ∧ (mvF ms i).toNat = k ∧ mvT ms i = x
  | 0 => by simp [tgTo]
  | j + 1 => by
    have ih := mem_tgTo (ms := ms) (k := k) (x := x) j
    show x ∈ updL (tgTo ms j) _ _ k ↔ _
    unfold updL
    by_cases e : k = (mvF ms j).toNat
    · rw [if_pos e, List.mem_append, ih, List.mem_singleton]
      constructor
      · rintro (⟨i, h1, h2, h3⟩ | h)
        · exact ⟨i, by omega, h2, h3⟩
        · exact ⟨j, by omega, e.symm, h.symm⟩
      · rintro ⟨i, h1, h2, h3⟩
        by_cases ei : i = j
        · subst ei; exact Or.inr h3.symm
        · exact Or.inl ⟨i, by omega, h2, h3⟩
    · rw [if_neg e, ih]
      constructor
      · rintro ⟨i, h1, h2, h3⟩; exact ⟨i, by omega, h2, h3⟩
      · rintro ⟨i, h1, h2, h3⟩
        by_cases ei : i = j
        · subst ei; exact absurd h2.symm e
        · exact ⟨i, by omega, h2, h3⟩

/-- a call returns a slice of slices of its own -/
def RetNexts (w : World) (n : Nat) (L : Nat → List Int) (e : Ending) (w' : World) : Prop := ∃ v, e = .returned v ∧ NextsAt w.heap.size w' v n L ∧ Below w.heap.size w w'

end Go.Proofs.Ytgmnknlnlmcmfaa
