/- WALK: moves of the program (the arcs of a state graph as moves by their places).
   ROWS OF SLICES OF INTS that grow one by one (a slice of slices whose elements are appended to): what they are, one step, what they read as. What a list of moves gives as targets. -/
import Derived.Test.YtnmoocgocnjdjaaGreatVSgd
import Derived.Test.YtnmoocgocnjdjaaGreatVNetb
import Derived.Test.YtnmoocgocnjdjaaGreatVApb
import Derived.Deep.AppendLies
namespace Go.Proofs.YtnmoocgocnjdjaaGreat
open Go.RowKit

def mvsOf (ls : List Ar) : List Mv := (List.range ls.length).map (fun i => (arF ls i, (i : Int), arT ls i))
theorem mvsOf_length (ls : List Ar) : (mvsOf ls).length = ls.length := by simp [mvsOf]
theorem mvsOf_get {ls : List Ar} {i : Nat} (h : i < ls.length) : mvF (mvsOf ls) i = arF ls i ∧ mvB (mvsOf ls) i = i ∧ mvT (mvsOf ls) i = arT ls i := by
  simp [mvF, mvB, mvT, mvsOf, List.getD, h]

set_option maxRecDepth 100000 in
set_option maxHeartbeats 1000000 in
theorem moves_any (v : Value) (r : SgD) (w : World) (lo : Nat) (hv : SgAt lo w v r) (hs : r.arcs.length ≤ 1048576) :
    Calls Tryz.prog 157 #[v] w (RetMoves w (mvsOf r.arcs)) := by
  obtain ⟨a0, c0, a1, c1, a2, c2, rfl, h_0, h_1, hl⟩ := hv.form
  clear hv h_0 h_1
  obtain ⟨gs, ss, ls⟩ := r
  simp only at hl hs ⊢
  obtain ⟨ao, cap, hvv, hc, hz⟩ := hl
  injection hvv with e1 e2 e3
  subst e1; subst e3; clear e2
  have HF := Lib.hid hz; clear hz
  have hmk := run_make_moves ls.length hs
  have hmf : ∀ i, i < ls.length → mvF (mvsOf ls) i = arF ls i ∧ mvB (mvsOf ls) i = i ∧ mvT (mvsOf ls) i = arT ls i := fun i h => mvsOf_get h
  have HM := Lib.hid hmf; clear hmf
  go_enter Tryz.func157, Tryz.ntmps157
  go_wp2_with fail
  go_loopw [13] (fun i wr => ∃ k : Nat, k ≤ ls.length ∧ i = .int .i64 k ∧ TripRow (w.heap.size + 1) 189 wr ls.length k (fun i => .int .i64 (mvF (mvsOf ls) i)) (fun i => .int .i64 (mvB (mvsOf ls) i)) (fun i => .int .i64 (mvT (mvsOf ls) i)) ∧ Below w.heap.size w wr ∧ w.heap.size + 1 < wr.heap.size) (fun i _ => ls.length - (intOf i).toNat)
  case atStart =>
    obtain ⟨f, hf⟩ := rowIs_size (w := w.alloc (.cells #[.slice a0 gs.length c0, .slice a1 ss.length c1, .slice a2 ls.length c2] 80)) (t := 189) (size_madeCells #[.int .i64 0, .int .i64 0, .int .i64 0] (ls.length * 3))
    exact ⟨0, Nat.zero_le _, rfl, ⟨f, by simpa using hf, fun i hi => absurd hi (Nat.not_lt_zero _)⟩, by (repeat' (first | (with_reducible exact Below.refl _ _) | (with_reducible assumption) | (with_reducible refine Below.alloc ?_ ?_ _) | (with_reducible refine Below.drew ?_) | (with_reducible refine below_drewN ?_ _) | (with_reducible refine Below.setCell ?_ ?_ _) | go_size)), by simp⟩
  case round =>
    obtain ⟨k, hk, rfl, hrow, hb1, hz1⟩ := hrel
    by_cases hlt : k < ls.length
    · rcases HF.out with h0 | ⟨b, off, rfl, hlo, hcell⟩
      · omega
      obtain ⟨q0, q1, q2, q3⟩ := hcell k hlt
      have d0 := Carries.of lo hb1 _ _ hlo q0
      have d1 := Carries.of lo hb1 _ _ hlo q1
      have d2 := Carries.of lo hb1 _ _ hlo q2
      have d3 := Carries.of lo hb1 _ _ hlo q3
      clear hcell q0 q1 q2 q3
      obtain ⟨y0, y1, y2, e0, e1, e2, f0, f1, f2⟩ := hrow.cells hlt
      have KK := HM.out k hlt
      have HP : Hid (TripRow (w.heap.size + 1) 189 (((wr.setCell ⟨w.heap.size + 1, k * 3, none⟩ (.int .i64 (arF ls k))).setCell ⟨w.heap.size + 1, k * 3 + 1, none⟩ (.int .i64 (k : Int))).setCell ⟨w.heap.size + 1, k * 3 + 2, none⟩ (.int .i64 (arT ls k))) ls.length (k + 1) (fun i => .int .i64 (mvF (mvsOf ls) i)) (fun i => .int .i64 (mvB (mvsOf ls) i)) (fun i => .int .i64 (mvT (mvsOf ls) i))) :=
        hrow.put hlt (by rw [KK.1]) (by rw [KK.2.1]) (by rw [KK.2.2])
      clear hrow KK
      try dsimp only at d0 d1 d2 d3
      generalize arF ls k = xf at d0 HP
      generalize arS ls k = xs at d1
      generalize arU ls k = xu at d2
      generalize arT ls k = xt at d3 HP
      have HD : Hid (Below w.heap.size w wr) := hb1
      clear hb1
      go_wp2_with fail
      have hb1 := HD.out
      go_roundw
      case rel =>
        refine ⟨k + 1, by omega, by go_num, HP.out.keep (((Below.refl _ _).alloc (Nat.le_refl _) _).block _ (by simpa using hz1)), ?_, by simp; omega⟩
        (repeat' (first | (with_reducible exact Below.refl _ _) | (with_reducible assumption) | (with_reducible refine Below.alloc ?_ ?_ _) | (with_reducible refine Below.drew ?_) | (with_reducible refine below_drewN ?_ _) | (with_reducible refine Below.setCell ?_ ?_ _) | go_size))
      case measure => simp [intOf]; omega
    · have hkk : k = ls.length := by omega
      subst hkk
      have HR := Lib.hid hrow; clear hrow
      go_wp2_with fail
      go_ret
      refine ⟨_, rfl, ?_, hb1⟩
      have h := HR.out.read
      unfold MovesAt
      rw [mvsOf_length]
      exact TripsAt.low h (by omega)

end Go.Proofs.YtnmoocgocnjdjaaGreat

namespace Go.Proofs.YtnmoocgocnjdjaaGreat
open Go.RowKit

theorem Tryz.infoInts : (Tryz.prog.info? 29).map (fun i => (i.zero, i.size, i.bytes)) = some (some (.slice none 0 0), 1, 24) := by kernel_rfl

/-- a slice of slices of ints: what each of the n reads as -/
def NextsAt (lo : Nat) (w : World) (v : Value) (n : Nat) (L : Nat → List Int) : Prop :=
  ∃ b off cap, v = .slice (some ⟨b, off, none⟩) n cap ∧ n ≤ cap ∧ lo ≤ b ∧ ∀ i, i < n → ∃ u, w.cell? ⟨b, off + i, none⟩ = some u ∧ IntsAt lo w u (L i)
theorem NextsAt.keep {lo : Nat} {w w' : World} {v : Value} {n : Nat} {L : Nat → List Int} (h : NextsAt lo w v n L) (hb : Carries lo w w') : NextsAt lo w' v n L := by
  obtain ⟨b, off, cap, hv, hc, hlo, hz⟩ := h
  refine ⟨b, off, cap, hv, hc, hlo, fun i hi => ?_⟩
  obtain ⟨u, hu, ha⟩ := hz i hi
  exact ⟨u, hb _ _ hlo hu, ha.keep hb⟩
theorem NextsAt.low {lo lo' : Nat} {w : World} {v : Value} {n : Nat} {L : Nat → List Int} (h : NextsAt lo w v n L) (hl : lo' ≤ lo) : NextsAt lo' w v n L := by
  obtain ⟨b, off, cap, hv, hc, hlo, hz⟩ := h
  refine ⟨b, off, cap, hv, hc, Nat.le_trans hl hlo, fun i hi => ?_⟩
  obtain ⟨u, hu, ha⟩ := hz i hi
  exact ⟨u, hu, ha.low hl⟩

/-- the call's own row NB of n slices, each the call's own, no two of one array -/
def NextsOw (B NB : Nat) (w : World) (n : Nat) (L : Nat → List Int) (f : Nat → Value) : Prop :=
  w.rowIs NB 29 n f ∧ B ≤ NB ∧ (∀ i, i < n → w.ownsRow B 3 1 (f i) (L i).length (intCells (L i)) ∧ (f i).ownBlock ≠ some NB) ∧
    (∀ i j b, i < n → j < n → i ≠ j → (f i).ownBlock = some b → (f j).ownBlock ≠ some b)
theorem ownsRow_lt {w : World} {B : Nat} {e : TypeId} {sz : Nat} {v : Value} {n : Nat} {xs : List Value} {b : Nat} (h : w.ownsRow B e sz v n xs) (hv : v.ownBlock = some b) : b < w.heap.size := by
  rcases h.2 with ⟨rfl, _⟩ | ⟨g, cap, cur, rfl, _, hg, _⟩
  · simp [Value.ownBlock] at hv
  · simp only [Value.ownBlock, Option.some.injEq] at hv
    subst hv
    exact (Array.getElem?_eq_some_iff.1 hg).1
theorem ownsRow_keep {w w' : World} {B : Nat} {e : TypeId} {sz : Nat} {v : Value} {n : Nat} {xs : List Value} (h : w.ownsRow B e sz v n xs) (hb : ∀ b, v.ownBlock = some b → b < w.heap.size → w'.heap[b]? = w.heap[b]?) : w'.ownsRow B e sz v n xs := by
  refine ⟨h.1, ?_⟩
  rcases h.2 with hn | ⟨g, cap, cur, rfl, hB, hg, rest⟩
  · exact Or.inl hn
  · exact Or.inr ⟨g, cap, cur, rfl, hB, (hb g rfl (Array.getElem?_eq_some_iff.1 hg).1).trans hg, rest⟩
theorem NextsOw.nil (w : World) (n : Nat) : NextsOw w.heap.size w.heap.size (w.alloc (.cells (madeCells #[.slice none 0 0] n) 29)) n (fun _ => []) (fun _ => .slice none 0 0) :=
  ⟨World.rowIs_made _ _ _ _, Nat.le_refl _, fun i _ => ⟨World.ownsRow_nil _ _ _ _, by simp [Value.ownBlock]⟩, fun i j b _ _ _ h => by simp [Value.ownBlock] at h⟩
theorem NextsOw.after {B NB : Nat} {w w' : World} {n : Nat} {L : Nat → List Int} {f : Nat → Value} (h : NextsOw B NB w n L f) (hb : Below w.heap.size w w') : NextsOw B NB w' n L f :=
  ⟨h.1.of_block (hb.block _ h.1.lt), h.2.1, fun i hi => ⟨ownsRow_keep (h.2.2.1 i hi).1 (fun b _ hl => hb.block b hl), (h.2.2.1 i hi).2⟩, h.2.2.2⟩
def updL (L : Nat → List Int) (i : Nat) (x : Int) : Nat → List Int := fun k => if k = i then L k ++ [x] else L k
/-- one slice has been appended to, and stored -/
theorem NextsOw.put {B NB : Nat} {w w' : World} {n : Nat} {L : Nat → List Int} {f : Nat → Value} {i g cap : Nat} {x : Int} {l : Nat} (h : NextsOw B NB w n L f) (hi : i < n) (hl : l = (L i).length + 1)
    (hown : w'.ownsRow B 3 1 (.slice (some ⟨g, 0, none⟩) l cap) l (intCells (L i) ++ [.int .i64 x])) (hg : w.grownBy w' (f i).ownBlock) (hat : (f i).ownBlock = some g ∨ g = w.heap.size) :
    NextsOw B NB (w'.setCell ⟨NB, i, none⟩ (.slice (some ⟨g, 0, none⟩) l cap)) n (updL L i x) (fun k => if k = i then .slice (some ⟨g, 0, none⟩) l cap else f k) := by
  subst hl
  obtain ⟨h1, h2, h3, h4⟩ := h
  have hNB := h1.lt
  have hrow' : w'.rowIs NB 29 n f := h1.of_block (hg.block _ hNB (fun e => (h3 i hi).2 e.symm))
  have hgNB : g ≠ NB := by
    rcases hat with e | e
    · intro e2; subst e2; exact (h3 i hi).2 e
    · omega
  have hgj : ∀ j, j < n → j ≠ i → (f j).ownBlock ≠ some g := by
    intro j hj hne e2
    rcases hat with e | e
    · exact h4 i j g hi hj (fun q => hne q.symm) e e2
    · have := ownsRow_lt (h3 j hj).1 e2; omega
  have hset : ∀ b, b ≠ NB → (w'.setCell ⟨NB, i, none⟩ (.slice (some ⟨g, 0, none⟩) ((L i).length + 1) cap)).heap[b]? = w'.heap[b]? := fun b hb => Below.heap_setCell _ _ _ _ hb
  refine ⟨hrow'.set i _, h2, fun k hk => ?_, fun a c b ha hc hne hb => ?_⟩
  · dsimp only
    by_cases e : k = i
    · subst e
      rw [if_pos rfl]
      have e1 : updL L k x k = L k ++ [x] := by unfold updL; rw [if_pos rfl]
      rw [e1, List.length_append, intCells_append]
      refine ⟨ownsRow_keep hown (fun b hb _ => hset b ?_), ?_⟩
      · simp only [Value.ownBlock, Option.some.injEq] at hb; omega
      · simp only [Value.ownBlock, ne_eq, Option.some.injEq]; exact hgNB
    · rw [if_neg e]
      have e1 : updL L i x k = L k := by unfold updL; rw [if_neg e]
      rw [e1]
      refine ⟨ownsRow_keep (h3 k hk).1 (fun b hb hlt => ?_), (h3 k hk).2⟩
      have hbn : b ≠ NB := fun e2 => (h3 k hk).2 (e2 ▸ hb)
      rw [hset b hbn]
      exact hg.block b hlt (fun e2 => h4 i k b hi hk (fun q => e q.symm) e2.symm hb)
  · dsimp only at hb ⊢
    by_cases ea : a = i
    · subst ea
      rw [if_pos rfl] at hb
      have ec : c ≠ a := fun q => hne q.symm
      rw [if_neg ec]
      simp only [Value.ownBlock, Option.some.injEq] at hb
      rw [← hb]
      exact hgj c hc ec
    · rw [if_neg ea] at hb
      by_cases ec : c = i
      · subst ec
        rw [if_pos rfl]
        simp only [Value.ownBlock, ne_eq, Option.some.injEq]
        intro e2; subst e2
        exact hgj a ha ea hb
      · rw [if_neg ec]
        exact h4 a c b ha hc hne hb
theorem NextsOw.read {B NB : Nat} {w : World} {n : Nat} {L : Nat → List Int} {f : Nat → Value} (h : NextsOw B NB w n L f) : NextsAt B w (.slice (some ⟨NB, 0, none⟩) n n) n L :=
  ⟨NB, 0, n, rfl, Nat.le_refl _, h.2.1, fun i hi => ⟨f i, by rw [Nat.zero_add]; exact h.1.cell hi, ints_of_owns (h.2.2.1 i hi).1⟩⟩

/-- the targets of the first j moves, by where they come from -/
def tgTo (ms : List Mv) : Nat → Nat → List Int
  | 0 => fun _ => []
  | j + 1 => updL (tgTo ms j) (mvF ms j).toNat (mvT ms j)
def tgL (ms : List Mv) : Nat → List Int := tgTo ms ms.length
theorem tgTo_length (ms : List Mv) : ∀ j k, (tgTo ms j k).length ≤ j
  | 0, _ => Nat.le_refl _
  | j + 1, k => by
    have := tgTo_length ms j k
    show (updL (tgTo ms j) _ _ k).length ≤ _
    unfold updL
    split
    · rw [List.length_append]; simp; omega
    · omega
theorem mem_tgTo {ms : List Mv} {k : Nat} {x : Int} : ∀ j, x ∈ tgTo ms j k ↔ ∃ i, i < j ∧ (mvF ms i).toNat = k ∧ mvT ms i = x
  | 0 => by simp [tgTo]
  | j + 1 => by
    have ih := mem_tgTo (ms := ms) (k := k) (x := x) j
    show x ∈ updL (tgTo ms j) _ _ k ↔ _
    unfold updL
    by_cases e : k = (mvF ms j).toNat
    · rw [if_pos e, List.mem_append, ih, List.mem_singleton]
      constructor
      · rintro (⟨i, h1, h2, h3⟩ | h)
        · exact ⟨i, by omega, h2, h3⟩
        · exact ⟨j, by omega, e.symm, h.symm⟩
      · rintro ⟨i, h1, h2, h3⟩
        by_cases ei : i = j
        · subst ei; exact Or.inr h3.symm
        · exact Or.inl ⟨i, by omega, h2, h3⟩
    · rw [if_neg e, ih]
      constructor
      · rintro ⟨i, h1, h2, h3⟩; exact ⟨i, by omega, h2, h3⟩
      · rintro ⟨i, h1, h2, h3⟩
        by_cases ei : i = j
        · subst ei; exact absurd h2.symm e
        · exact ⟨i, by omega, h2, h3⟩

/-- a call returns a slice of slices of its own -/
def RetNexts (w : World) (n : Nat) (L : Nat → List Int) (e : Ending) (w' : World) : Prop := ∃ v, e = .returned v ∧ NextsAt w.heap.size w' v n L ∧ Below w.heap.size w w'

end Go.Proofs.YtnmoocgocnjdjaaGreat
