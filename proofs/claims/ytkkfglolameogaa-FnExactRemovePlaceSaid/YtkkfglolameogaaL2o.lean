/-
  WALK: l2Own of the model: a graph of the call's own.
-/
import Derived.Test.YtkkfglolameogaaCopy
import Derived.Test.YtkkfglolameogaaUnf
namespace Go.Proofs.Ytkkfglolameogaa
open Go.RowKit

/-- rows of two types lie in two blocks -/
theorem rows_apartT {B B' : Nat} {w : World} {e e' : TypeId} {s s' n n' : Nat} {v v' : Value} {xs ys : List Value} (h : w.ownsRow B e s v n xs) (h' : w.ownsRow B' e' s' v' n' ys) (hne : e ≠ e') : v.ownBlock = none ∨ v.ownBlock ≠ v'.ownBlock := by
  rcases h.2 with ⟨rfl, _⟩ | ⟨g, cap, cur, rfl, _, hg, _⟩
  · exact Or.inl rfl
  · right
    rcases h'.2 with ⟨rfl, _⟩ | ⟨g', cap', cur', rfl, _, hg', _⟩
    · simp [Value.ownBlock]
    · intro e1
      simp only [Value.ownBlock, Option.some.injEq] at e1
      subst e1
      rw [hg] at hg'
      simp at hg'
      exact hne hg'.2
theorem OwnTrs.grownT {B B' : Nat} {w w' : World} {e : TypeId} {s : Nat} {xs ys : List Value} {k n : Nat} {v : Value} {ts : List Tr} (h : OwnTrs B w xs k ts) (hown : w.ownsRow B' e s v n ys) (hne : 3 ≠ e) (hg : w.grownBy w' v.ownBlock) : OwnTrs B w' xs k ts := by
  refine ⟨h.1, fun i hi => ?_⟩
  obtain ⟨v0, v1, e0, e1, h0, h1⟩ := h.2 i hi
  exact ⟨v0, v1, e0, e1, h0.kept hg (rows_apartT h0 hown hne), h1.kept hg (rows_apartT h1 hown hne)⟩

/-- a call returns a graph of its own -/
def RetL2 (w : World) (s : StgD) (e : Ending) (w' : World) : Prop :=
  ∃ (u : Value) (xs : List Value) (vs vl : Value), e = .returned (.agg #[.int .i64 s.net.places, u, vs, vl, .string s.start]) ∧
    w'.ownsRow w.heap.size 64 2 u s.net.ts.length xs ∧ OwnTrs w.heap.size w' xs s.net.ts.length s.net.ts ∧
    w'.ownsRow w.heap.size 86 2 vs s.sigs.length (pairCells (sgX s.sigs) (sgY s.sigs) s.sigs.length) ∧
    w'.ownsRow w.heap.size 98 2 vl s.labs.length (pairCells (lbX s.labs) (lbY s.labs) s.labs.length) ∧ Below w.heap.size w w'

set_option maxRecDepth 100000 in
set_option maxHeartbeats 8000000 in
theorem l2Own_any (v : Value) (s : StgD) (w : World) (lo : Nat) (hv : StgAt lo w v s) (hs : SmallTrs s.net.ts) (hn1 : s.sigs.length ≤ 1048576) (hn2 : s.labs.length ≤ 1048576) :
    Calls Try.prog 58 #[v] w (RetL2 w s) := by
  obtain ⟨⟨p, ts⟩, ss, ls, str⟩ := s
  obtain ⟨vt, vs, vl, rfl, hnet, hsg, hlb⟩ := hv
  simp only at hnet hsg hlb hs hn1 hn2 ⊢
  have hnet0 := hnet
  obtain ⟨_, _, u, hu, ht⟩ := hnet
  simp only at ht
  simp only [Value.agg.injEq, Array.mk.injEq, List.cons.injEq, and_true, true_and] at hu
  subst hu
  obtain ⟨at_, kt, rfl, _, _⟩ := id ht
  obtain ⟨as_, ks, rfl, _, _⟩ := id hsg
  obtain ⟨al_, kl, rfl, _, _⟩ := id hlb
  have HN := Lib.hid hnet0; clear hnet0 ht
  have HG := Lib.hid hsg; clear hsg
  have HL := Lib.hid hlb; clear hlb
  have HS := Lib.hid hs; clear hs
  go_enter Try.func58, Try.ntmps58
  go_wp2_with fail
  obtain ⟨W, hW⟩ : ∃ W, W = (w.alloc (.cells #[.int .i64 p, .slice at_ ts.length kt, .slice as_ ss.length ks, .slice al_ ls.length kl, .string str] 36)).alloc (.cells #[.int .i64 0, .slice none 0 0, .slice none 0 0, .slice none 0 0, .string ⟨#[]⟩] 36) := ⟨_, rfl⟩
  have hz : W.heap.size = w.heap.size + 2 := by rw [hW]; simp
  have hwW : Below w.heap.size w W := by rw [hW]; (repeat' (first | (with_reducible exact Below.refl _ _) | (with_reducible assumption) | (with_reducible refine Below.alloc ?_ ?_ _) | (with_reducible refine Below.drew ?_) | (with_reducible refine below_drewN ?_ _) | (with_reducible refine Below.setCell ?_ ?_ _) | go_size))
  have b0 : W.cell? ⟨w.heap.size, 0, none⟩ = some (.int .i64 p) := by rw [hW]; simp [go_sem]
  have b1 : W.cell? ⟨w.heap.size, 1, none⟩ = some (.slice at_ ts.length kt) := by rw [hW]; simp [go_sem]
  have b2 : W.cell? ⟨w.heap.size, 2, none⟩ = some (.slice as_ ss.length ks) := by rw [hW]; simp [go_sem]
  have b3 : W.cell? ⟨w.heap.size, 3, none⟩ = some (.slice al_ ls.length kl) := by rw [hW]; simp [go_sem]
  have b4 : W.cell? ⟨w.heap.size, 4, none⟩ = some (.string str) := by rw [hW]; simp [go_sem]
  have r0 : W.cell? ⟨w.heap.size + 1, 0, none⟩ = some (.int .i64 0) := by rw [hW]; simp [go_sem]
  have r1 : W.cell? ⟨w.heap.size + 1, 1, none⟩ = some (.slice none 0 0) := by rw [hW]; simp [go_sem]
  have r2 : W.cell? ⟨w.heap.size + 1, 2, none⟩ = some (.slice none 0 0) := by rw [hW]; simp [go_sem]
  have r3 : W.cell? ⟨w.heap.size + 1, 3, none⟩ = some (.slice none 0 0) := by rw [hW]; simp [go_sem]
  have r4 : W.cell? ⟨w.heap.size + 1, 4, none⟩ = some (.string ⟨#[]⟩) := by rw [hW]; simp [go_sem]
  have rf0 : W.frozen? ⟨w.heap.size + 1, 0, none⟩ = false := by rw [hW]; simp [go_sem]
  have rf1 : W.frozen? ⟨w.heap.size + 1, 1, none⟩ = false := by rw [hW]; simp [go_sem]
  have rf2 : W.frozen? ⟨w.heap.size + 1, 2, none⟩ = false := by rw [hW]; simp [go_sem]
  have rf3 : W.frozen? ⟨w.heap.size + 1, 3, none⟩ = false := by rw [hW]; simp [go_sem]
  have rf4 : W.frozen? ⟨w.heap.size + 1, 4, none⟩ = false := by rw [hW]; simp [go_sem]
  rw [← hW]
  clear hW
  refine wp_region_held_drew (S := fun w' => w'.cell? ⟨w.heap.size, 0, none⟩ = some (.int .i64 p) ∧ w'.cell? ⟨w.heap.size, 1, none⟩ = some (.slice at_ ts.length kt) ∧ w'.cell? ⟨w.heap.size, 2, none⟩ = some (.slice as_ ss.length ks) ∧ w'.cell? ⟨w.heap.size, 3, none⟩ = some (.slice al_ ls.length kl) ∧ w'.cell? ⟨w.heap.size, 4, none⟩ = some (.string str)) (by kernel_rfl) ⟨b0, b1, b2, b3, b4⟩ (fun hHeld => ?_)
  have hd : Below W.heap.size W W.drew := (Below.refl _ _).drew
  generalize W.drew = W0 at hd hHeld ⊢
  have b0 := cell_carry b0 (Carries.of 0 hd)
  have b1 := cell_carry b1 (Carries.of 0 hd)
  have b2 := cell_carry b2 (Carries.of 0 hd)
  have b3 := cell_carry b3 (Carries.of 0 hd)
  have b4 := cell_carry b4 (Carries.of 0 hd)
  have r0 := cell_carry r0 (Carries.of 0 hd)
  have r1 := cell_carry r1 (Carries.of 0 hd)
  have r2 := cell_carry r2 (Carries.of 0 hd)
  have r3 := cell_carry r3 (Carries.of 0 hd)
  have r4 := cell_carry r4 (Carries.of 0 hd)
  have rf0 := (hd.frozen (p := ⟨w.heap.size + 1, 0, none⟩) (by simp; omega)).trans rf0
  have rf1 := (hd.frozen (p := ⟨w.heap.size + 1, 1, none⟩) (by simp; omega)).trans rf1
  have rf2 := (hd.frozen (p := ⟨w.heap.size + 1, 2, none⟩) (by simp; omega)).trans rf2
  have rf3 := (hd.frozen (p := ⟨w.heap.size + 1, 3, none⟩) (by simp; omega)).trans rf3
  have rf4 := (hd.frozen (p := ⟨w.heap.size + 1, 4, none⟩) (by simp; omega)).trans rf4
  have zdW0 := hd.size
  have belW0 := hwW.trans (hd.mono hwW.size)
  clear hd hwW
  have b0W0 := b0
  have b1W0 := b1
  have b2W0 := b2
  have b3W0 := b3
  have b4W0 := b4
  have r0W0 := r0
  have r1W0 := r1
  have r2W0 := r2
  have r3W0 := r3
  have r4W0 := r4
  have rf0W0 := rf0
  have rf1W0 := rf1
  have rf2W0 := rf2
  have rf3W0 := rf3
  have rf4W0 := rf4
  clear b0 b1 b2 b3 b4 r0 r1 r2 r3 r4 rf0 rf1 rf2 rf3 rf4
  refine tk0 (v := ?_) (by kernel_rfl) (by kernel_rfl) (by kernel_rfl) (by first | exact fun _ _ _ h => h | exact fun _ _ _ h => absurd h.1 (by simp)) (Or.inl ⟨by rfl, ?_⟩) (by assumption) ?_
  rotate_left 1
  focus (intro wx hSw; (try dsimp only at hSw); go_simp; try (with_reducible rfl))
  try simp only [Act.put, List.setIfInBounds_toArray, List.set_cons_zero, List.set_cons_succ]
  refine tk1 (v := ?_) (by kernel_rfl) (by kernel_rfl) (by kernel_rfl) (by first | exact fun _ _ _ h => h | exact fun _ _ _ h => absurd h.1 (by simp)) (Or.inl ⟨by rfl, ?_⟩) (by assumption) ?_
  rotate_left 1
  focus (intro wx hSw; (try dsimp only at hSw); go_simp; try (with_reducible rfl))
  try simp only [Act.put, List.setIfInBounds_toArray, List.set_cons_zero, List.set_cons_succ]
  refine tk4 (v := ?_) (by kernel_rfl) (by kernel_rfl) (by kernel_rfl) (by first | exact fun _ _ _ h => h | exact fun _ _ _ h => absurd h.1 (by simp)) (Or.inl ⟨by rfl, ?_⟩) (by assumption) ?_
  rotate_left 1
  focus (intro wx hSw; (try dsimp only at hSw); go_simp; try (with_reducible rfl))
  try simp only [Act.put, List.setIfInBounds_toArray, List.set_cons_zero, List.set_cons_succ]
  refine tk5 (v := ?_) (by kernel_rfl) (by kernel_rfl) (by kernel_rfl) (by first | exact fun _ _ _ h => h | exact fun _ _ _ h => absurd h.1 (by simp)) (Or.inl ⟨by rfl, ?_⟩) (by assumption) ?_
  rotate_left 1
  focus (intro wx hSw; (try dsimp only at hSw); go_simp; try (with_reducible rfl))
  try simp only [Act.put, List.setIfInBounds_toArray, List.set_cons_zero, List.set_cons_succ]
  refine tk8 (v := ?_) (by kernel_rfl) (by kernel_rfl) (by kernel_rfl) (by first | exact fun _ _ _ h => h | exact fun _ _ _ h => absurd h.1 (by simp)) (Or.inl ⟨by rfl, ?_⟩) (by assumption) ?_
  rotate_left 1
  focus (intro wx hSw; (try dsimp only at hSw); go_simp; try (with_reducible rfl))
  try simp only [Act.put, List.setIfInBounds_toArray, List.set_cons_zero, List.set_cons_succ]
  refine tk9 (v := ?_) (by kernel_rfl) (by kernel_rfl) (by kernel_rfl) (by first | exact fun _ _ _ h => h | exact fun _ _ _ h => absurd h.1 (by simp)) (Or.inl ⟨by rfl, ?_⟩) (by assumption) ?_
  rotate_left 1
  focus (intro wx hSw; (try dsimp only at hSw); go_simp; try (with_reducible rfl))
  try simp only [Act.put, List.setIfInBounds_toArray, List.set_cons_zero, List.set_cons_succ]
  refine tk11 (v := ?_) (by kernel_rfl) (by kernel_rfl) (by kernel_rfl) (by first | exact fun _ _ _ h => h | exact fun _ _ _ h => absurd h.1 (by simp)) (Or.inl ⟨by rfl, ?_⟩) (by assumption) ?_
  rotate_left 1
  focus (intro wx hSw; (try dsimp only at hSw); go_simp; try (with_reducible rfl))
  try simp only [Act.put, List.setIfInBounds_toArray, List.set_cons_zero, List.set_cons_succ]
  refine tk12 (v := ?_) (by kernel_rfl) (by kernel_rfl) (by kernel_rfl) (by first | exact fun _ _ _ h => h | exact fun _ _ _ h => absurd h.1 (by simp)) (Or.inl ⟨by rfl, ?_⟩) (by assumption) ?_
  rotate_left 1
  focus (intro wx hSw; (try dsimp only at hSw); go_simp; try (with_reducible rfl))
  try simp only [Act.put, List.setIfInBounds_toArray, List.set_cons_zero, List.set_cons_succ]
  refine wpAnyH_ready (rs := [2, 3, 7]) (by kernel_rfl) (by simp) ?_
  refine ar2 (fun K hK => ?_) ?_
  · go_simp
    refine (l1OwnN_any _ ⟨p, ts⟩ W0 lo (HN.out.keep (Carries.of lo belW0)) HS.out).mono ?_
    rintro e W1 ⟨u, xs, rfl, hou, hot, hbb⟩
    obtain ⟨a4, k4, rfl⟩ := owns_form hou
    simp only at hou hot
    have b0W1 := cell_carry b0W0 (Carries.of 0 hbb)
    have b1W1 := cell_carry b1W0 (Carries.of 0 hbb)
    have b2W1 := cell_carry b2W0 (Carries.of 0 hbb)
    have b3W1 := cell_carry b3W0 (Carries.of 0 hbb)
    have b4W1 := cell_carry b4W0 (Carries.of 0 hbb)
    have r0W1 := cell_carry r0W0 (Carries.of 0 hbb)
    have r1W1 := cell_carry r1W0 (Carries.of 0 hbb)
    have r2W1 := cell_carry r2W0 (Carries.of 0 hbb)
    have r3W1 := cell_carry r3W0 (Carries.of 0 hbb)
    have r4W1 := cell_carry r4W0 (Carries.of 0 hbb)
    have rf0W1 := (hbb.frozen (p := ⟨w.heap.size + 1, 0, none⟩) (by simp; omega)).trans rf0W0
    have rf1W1 := (hbb.frozen (p := ⟨w.heap.size + 1, 1, none⟩) (by simp; omega)).trans rf1W0
    have rf2W1 := (hbb.frozen (p := ⟨w.heap.size + 1, 2, none⟩) (by simp; omega)).trans rf2W0
    have rf3W1 := (hbb.frozen (p := ⟨w.heap.size + 1, 3, none⟩) (by simp; omega)).trans rf3W0
    have rf4W1 := (hbb.frozen (p := ⟨w.heap.size + 1, 4, none⟩) (by simp; omega)).trans rf4W0
    have zdW1 := hbb.size
    have belW1 := belW0.trans (hbb.mono belW0.size)
    have HUW1 := Lib.hid (Go.Joins.ownsRow_le (base' := w.heap.size + 2) hou (by omega))
    have HTW1 := Lib.hid (hot.low (B' := w.heap.size + 2) (by omega))
    clear hou hot hbb
    refine hK.out _ _ ⟨b0W1, b1W1, b2W1, b3W1, b4W1⟩ (fun hHeld => ?_)
    clear hK K
    try simp only [Act.put, List.setIfInBounds_toArray, List.set_cons_zero, List.set_cons_succ]
    refine wpAnyH_ready (rs := [3, 7]) (by kernel_rfl) (by simp) ?_
    refine ar3 (fun K hK => ?_) ?_
    · go_simp
      have hbb : Below W1.heap.size W1 (W1.alloc (.cells #[] 86)) := (Below.refl _ _).alloc (Nat.le_refl _) _
      have hown : (W1.alloc (.cells #[] 86)).ownsRow (w.heap.size + 2) 86 2 (.slice (some ⟨W1.heap.size, 0, none⟩) 0 0) 0 [] :=
        ⟨rfl, Or.inr ⟨W1.heap.size, 0, #[], rfl, by omega, heap_alloc_new W1 _, Nat.le_refl _, Nat.zero_le _, rfl, rfl⟩⟩
      generalize W1.alloc (.cells #[] 86) = W2 at hbb hown ⊢
      have b0W2 := cell_carry b0W1 (Carries.of 0 hbb)
      have b1W2 := cell_carry b1W1 (Carries.of 0 hbb)
      have b2W2 := cell_carry b2W1 (Carries.of 0 hbb)
      have b3W2 := cell_carry b3W1 (Carries.of 0 hbb)
      have b4W2 := cell_carry b4W1 (Carries.of 0 hbb)
      have r0W2 := cell_carry r0W1 (Carries.of 0 hbb)
      have r1W2 := cell_carry r1W1 (Carries.of 0 hbb)
      have r2W2 := cell_carry r2W1 (Carries.of 0 hbb)
      have r3W2 := cell_carry r3W1 (Carries.of 0 hbb)
      have r4W2 := cell_carry r4W1 (Carries.of 0 hbb)
      have rf0W2 := (hbb.frozen (p := ⟨w.heap.size + 1, 0, none⟩) (by simp; omega)).trans rf0W1
      have rf1W2 := (hbb.frozen (p := ⟨w.heap.size + 1, 1, none⟩) (by simp; omega)).trans rf1W1
      have rf2W2 := (hbb.frozen (p := ⟨w.heap.size + 1, 2, none⟩) (by simp; omega)).trans rf2W1
      have rf3W2 := (hbb.frozen (p := ⟨w.heap.size + 1, 3, none⟩) (by simp; omega)).trans rf3W1
      have rf4W2 := (hbb.frozen (p := ⟨w.heap.size + 1, 4, none⟩) (by simp; omega)).trans rf4W1
      have zdW2 := hbb.size
      have belW2 := belW1.trans (hbb.mono belW1.size)
      have HUW2 := Lib.hid (owns_after HUW1.out hbb)
      have HTW2 := Lib.hid (HTW1.out.after hbb)
      have HSeW2 := Lib.hid hown; clear hown hbb
      refine hK.out _ _ ⟨b0W2, b1W2, b2W2, b3W2, b4W2⟩ (fun hHeld => ?_)
      clear hK K
      try simp only [Act.put, List.setIfInBounds_toArray, List.set_cons_zero, List.set_cons_succ]
      refine wpAnyH_ready (rs := [6, 7]) (by kernel_rfl) (by simp) ?_
      refine ar6 (fun K hK => ?_) ?_
      · rw [if_pos (by rfl)]
        refine wp_append_sigs (.tmp 6) (.tmp 8) rfl (w.heap.size + 2) lo _ 0 [] rfl HSeW2.out _ ss rfl (HG.out.keep (Carries.of lo belW2)) (by omega) (by omega) ?_
        intro v' W3 hown hgrow
        simp only [Nat.zero_add, List.nil_append] at hown
        obtain ⟨a5, k5, rfl⟩ := owns_form hown
        have hne : ∀ k, k < w.heap.size + 2 → some k ≠ _ := fun k hk e => absurd (HSeW2.out.lt _ e.symm).1 (by omega)
        have b0W3 := hgrow.cell b0W2 (hne _ (by simp <;> omega))
        have b1W3 := hgrow.cell b1W2 (hne _ (by simp <;> omega))
        have b2W3 := hgrow.cell b2W2 (hne _ (by simp <;> omega))
        have b3W3 := hgrow.cell b3W2 (hne _ (by simp <;> omega))
        have b4W3 := hgrow.cell b4W2 (hne _ (by simp <;> omega))
        have r0W3 := hgrow.cell r0W2 (hne _ (by simp <;> omega))
        have r1W3 := hgrow.cell r1W2 (hne _ (by simp <;> omega))
        have r2W3 := hgrow.cell r2W2 (hne _ (by simp <;> omega))
        have r3W3 := hgrow.cell r3W2 (hne _ (by simp <;> omega))
        have r4W3 := hgrow.cell r4W2 (hne _ (by simp <;> omega))
        have rf0W3 := (World.frozen?_of_block (a := ⟨w.heap.size + 1, 0, none⟩) (hgrow.block (w.heap.size + 1) (by omega) (hne _ (by omega)))).trans rf0W2
        have rf1W3 := (World.frozen?_of_block (a := ⟨w.heap.size + 1, 1, none⟩) (hgrow.block (w.heap.size + 1) (by omega) (hne _ (by omega)))).trans rf1W2
        have rf2W3 := (World.frozen?_of_block (a := ⟨w.heap.size + 1, 2, none⟩) (hgrow.block (w.heap.size + 1) (by omega) (hne _ (by omega)))).trans rf2W2
        have rf3W3 := (World.frozen?_of_block (a := ⟨w.heap.size + 1, 3, none⟩) (hgrow.block (w.heap.size + 1) (by omega) (hne _ (by omega)))).trans rf3W2
        have rf4W3 := (World.frozen?_of_block (a := ⟨w.heap.size + 1, 4, none⟩) (hgrow.block (w.heap.size + 1) (by omega) (hne _ (by omega)))).trans rf4W2
        have zdW3 := hgrow.size
        have belW3 := belW2.grown hgrow belW2.size (fun g hg => by have := (HSeW2.out.lt g hg).1; omega)
        have HUW3 := Lib.hid (HUW2.out.kept hgrow (rows_apartT HUW2.out HSeW2.out (by decide)))
        have HTW3 := Lib.hid (HTW2.out.grownT HSeW2.out (by decide) hgrow)
        have HSoW3 := Lib.hid hown; clear hown hgrow hne
        refine hK.out _ _ ⟨b0W3, b1W3, b2W3, b3W3, b4W3⟩ (fun hHeld => ?_)
        clear hK K
        try simp only [Act.put, List.setIfInBounds_toArray, List.set_cons_zero, List.set_cons_succ]
        refine rd7 (by kernel_rfl) (fun K hK => ?_)
        go_simp
        have hbb : Below W3.heap.size W3 (W3.alloc (.cells #[] 98)) := (Below.refl _ _).alloc (Nat.le_refl _) _
        have hown : (W3.alloc (.cells #[] 98)).ownsRow (w.heap.size + 2) 98 2 (.slice (some ⟨W3.heap.size, 0, none⟩) 0 0) 0 [] :=
          ⟨rfl, Or.inr ⟨W3.heap.size, 0, #[], rfl, by omega, heap_alloc_new W3 _, Nat.le_refl _, Nat.zero_le _, rfl, rfl⟩⟩
        generalize W3.alloc (.cells #[] 98) = W4 at hbb hown ⊢
        have b0W4 := cell_carry b0W3 (Carries.of 0 hbb)
        have b1W4 := cell_carry b1W3 (Carries.of 0 hbb)
        have b2W4 := cell_carry b2W3 (Carries.of 0 hbb)
        have b3W4 := cell_carry b3W3 (Carries.of 0 hbb)
        have b4W4 := cell_carry b4W3 (Carries.of 0 hbb)
        have r0W4 := cell_carry r0W3 (Carries.of 0 hbb)
        have r1W4 := cell_carry r1W3 (Carries.of 0 hbb)
        have r2W4 := cell_carry r2W3 (Carries.of 0 hbb)
        have r3W4 := cell_carry r3W3 (Carries.of 0 hbb)
        have r4W4 := cell_carry r4W3 (Carries.of 0 hbb)
        have rf0W4 := (hbb.frozen (p := ⟨w.heap.size + 1, 0, none⟩) (by simp; omega)).trans rf0W3
        have rf1W4 := (hbb.frozen (p := ⟨w.heap.size + 1, 1, none⟩) (by simp; omega)).trans rf1W3
        have rf2W4 := (hbb.frozen (p := ⟨w.heap.size + 1, 2, none⟩) (by simp; omega)).trans rf2W3
        have rf3W4 := (hbb.frozen (p := ⟨w.heap.size + 1, 3, none⟩) (by simp; omega)).trans rf3W3
        have rf4W4 := (hbb.frozen (p := ⟨w.heap.size + 1, 4, none⟩) (by simp; omega)).trans rf4W3
        have zdW4 := hbb.size
        have belW4 := belW3.trans (hbb.mono belW3.size)
        have HUW4 := Lib.hid (owns_after HUW3.out hbb)
        have HTW4 := Lib.hid (HTW3.out.after hbb)
        have HSoW4 := Lib.hid (owns_after HSoW3.out hbb)
        have HLeW4 := Lib.hid hown; clear hown hbb
        refine hK.out _ _ ⟨b0W4, b1W4, b2W4, b3W4, b4W4⟩ (fun hHeld => ?_)
        clear hK K
        try simp only [Act.put, List.setIfInBounds_toArray, List.set_cons_zero, List.set_cons_succ]
        refine rd10 (by kernel_rfl) (fun K hK => ?_)
        rw [if_pos (by rfl)]
        refine wp_append_labs (.tmp 10) (.tmp 12) rfl (w.heap.size + 2) lo _ 0 [] rfl HLeW4.out _ ls rfl (HL.out.keep (Carries.of lo belW4)) (by omega) (by omega) ?_
        intro v' W5 hown hgrow
        simp only [Nat.zero_add, List.nil_append] at hown
        obtain ⟨a6, k6, rfl⟩ := owns_form hown
        have hne : ∀ k, k < w.heap.size + 2 → some k ≠ _ := fun k hk e => absurd (HLeW4.out.lt _ e.symm).1 (by omega)
        have b0W5 := hgrow.cell b0W4 (hne _ (by simp <;> omega))
        have b1W5 := hgrow.cell b1W4 (hne _ (by simp <;> omega))
        have b2W5 := hgrow.cell b2W4 (hne _ (by simp <;> omega))
        have b3W5 := hgrow.cell b3W4 (hne _ (by simp <;> omega))
        have b4W5 := hgrow.cell b4W4 (hne _ (by simp <;> omega))
        have r0W5 := hgrow.cell r0W4 (hne _ (by simp <;> omega))
        have r1W5 := hgrow.cell r1W4 (hne _ (by simp <;> omega))
        have r2W5 := hgrow.cell r2W4 (hne _ (by simp <;> omega))
        have r3W5 := hgrow.cell r3W4 (hne _ (by simp <;> omega))
        have r4W5 := hgrow.cell r4W4 (hne _ (by simp <;> omega))
        have rf0W5 := (World.frozen?_of_block (a := ⟨w.heap.size + 1, 0, none⟩) (hgrow.block (w.heap.size + 1) (by omega) (hne _ (by omega)))).trans rf0W4
        have rf1W5 := (World.frozen?_of_block (a := ⟨w.heap.size + 1, 1, none⟩) (hgrow.block (w.heap.size + 1) (by omega) (hne _ (by omega)))).trans rf1W4
        have rf2W5 := (World.frozen?_of_block (a := ⟨w.heap.size + 1, 2, none⟩) (hgrow.block (w.heap.size + 1) (by omega) (hne _ (by omega)))).trans rf2W4
        have rf3W5 := (World.frozen?_of_block (a := ⟨w.heap.size + 1, 3, none⟩) (hgrow.block (w.heap.size + 1) (by omega) (hne _ (by omega)))).trans rf3W4
        have rf4W5 := (World.frozen?_of_block (a := ⟨w.heap.size + 1, 4, none⟩) (hgrow.block (w.heap.size + 1) (by omega) (hne _ (by omega)))).trans rf4W4
        have zdW5 := hgrow.size
        have belW5 := belW4.grown hgrow belW4.size (fun g hg => by have := (HLeW4.out.lt g hg).1; omega)
        have HUW5 := Lib.hid (HUW4.out.kept hgrow (rows_apartT HUW4.out HLeW4.out (by decide)))
        have HTW5 := Lib.hid (HTW4.out.grownT HLeW4.out (by decide) hgrow)
        have HSoW5 := Lib.hid (HSoW4.out.kept hgrow (rows_apartT HSoW4.out HLeW4.out (by decide)))
        have HLoW5 := Lib.hid hown; clear hown hgrow hne
        refine hK.out _ _ ⟨b0W5, b1W5, b2W5, b3W5, b4W5⟩ (fun hHeld => ?_)
        clear hK K
        try simp only [Act.put, List.setIfInBounds_toArray, List.set_cons_zero, List.set_cons_succ]
        refine tk13 (v := ?_) (by kernel_rfl) (by kernel_rfl) (by kernel_rfl) (by first | exact fun _ _ _ h => h | exact fun _ _ _ h => absurd h.1 (by simp)) (Or.inl ⟨by rfl, ?_⟩) (by assumption) ?_
        rotate_left 1
        focus (intro wx hSw; (try dsimp only at hSw); go_simp; try (with_reducible rfl))
        try simp only [Act.put, List.setIfInBounds_toArray, List.set_cons_zero, List.set_cons_succ]
        refine rd14 (by kernel_rfl) (fun K hK => ?_)
        go_simp
        have q0 : (((((W5.setCell ⟨w.heap.size + 1, 0, none⟩ (.int .i64 p)).setCell ⟨w.heap.size + 1, 1, none⟩ (.slice a4 ts.length k4)).setCell ⟨w.heap.size + 1, 2, none⟩ (.slice a5 ss.length k5)).setCell ⟨w.heap.size + 1, 3, none⟩ (.slice a6 ls.length k6)).setCell ⟨w.heap.size + 1, 4, none⟩ (.string str)).cell? ⟨w.heap.size + 1, 0, none⟩ = some (.int .i64 p) := ((World.cell?_setCell_other _ _ _ _ (by simp)).trans ((World.cell?_setCell_other _ _ _ _ (by simp)).trans ((World.cell?_setCell_other _ _ _ _ (by simp)).trans ((World.cell?_setCell_other _ _ _ _ (by simp)).trans (World.cell?_setCell_same _ _ _ r0W5)))))
        have q1 : (((((W5.setCell ⟨w.heap.size + 1, 0, none⟩ (.int .i64 p)).setCell ⟨w.heap.size + 1, 1, none⟩ (.slice a4 ts.length k4)).setCell ⟨w.heap.size + 1, 2, none⟩ (.slice a5 ss.length k5)).setCell ⟨w.heap.size + 1, 3, none⟩ (.slice a6 ls.length k6)).setCell ⟨w.heap.size + 1, 4, none⟩ (.string str)).cell? ⟨w.heap.size + 1, 1, none⟩ = some (.slice a4 ts.length k4) := ((World.cell?_setCell_other _ _ _ _ (by simp)).trans ((World.cell?_setCell_other _ _ _ _ (by simp)).trans ((World.cell?_setCell_other _ _ _ _ (by simp)).trans (World.cell?_setCell_same _ _ _ ((World.cell?_setCell_other _ _ _ _ (by simp)).trans r1W5)))))
        have q2 : (((((W5.setCell ⟨w.heap.size + 1, 0, none⟩ (.int .i64 p)).setCell ⟨w.heap.size + 1, 1, none⟩ (.slice a4 ts.length k4)).setCell ⟨w.heap.size + 1, 2, none⟩ (.slice a5 ss.length k5)).setCell ⟨w.heap.size + 1, 3, none⟩ (.slice a6 ls.length k6)).setCell ⟨w.heap.size + 1, 4, none⟩ (.string str)).cell? ⟨w.heap.size + 1, 2, none⟩ = some (.slice a5 ss.length k5) := ((World.cell?_setCell_other _ _ _ _ (by simp)).trans ((World.cell?_setCell_other _ _ _ _ (by simp)).trans (World.cell?_setCell_same _ _ _ ((World.cell?_setCell_other _ _ _ _ (by simp)).trans ((World.cell?_setCell_other _ _ _ _ (by simp)).trans r2W5)))))
        have q3 : (((((W5.setCell ⟨w.heap.size + 1, 0, none⟩ (.int .i64 p)).setCell ⟨w.heap.size + 1, 1, none⟩ (.slice a4 ts.length k4)).setCell ⟨w.heap.size + 1, 2, none⟩ (.slice a5 ss.length k5)).setCell ⟨w.heap.size + 1, 3, none⟩ (.slice a6 ls.length k6)).setCell ⟨w.heap.size + 1, 4, none⟩ (.string str)).cell? ⟨w.heap.size + 1, 3, none⟩ = some (.slice a6 ls.length k6) := ((World.cell?_setCell_other _ _ _ _ (by simp)).trans (World.cell?_setCell_same _ _ _ ((World.cell?_setCell_other _ _ _ _ (by simp)).trans ((World.cell?_setCell_other _ _ _ _ (by simp)).trans ((World.cell?_setCell_other _ _ _ _ (by simp)).trans r3W5)))))
        have q4 : (((((W5.setCell ⟨w.heap.size + 1, 0, none⟩ (.int .i64 p)).setCell ⟨w.heap.size + 1, 1, none⟩ (.slice a4 ts.length k4)).setCell ⟨w.heap.size + 1, 2, none⟩ (.slice a5 ss.length k5)).setCell ⟨w.heap.size + 1, 3, none⟩ (.slice a6 ls.length k6)).setCell ⟨w.heap.size + 1, 4, none⟩ (.string str)).cell? ⟨w.heap.size + 1, 4, none⟩ = some (.string str) := (World.cell?_setCell_same _ _ _ ((World.cell?_setCell_other _ _ _ _ (by simp)).trans ((World.cell?_setCell_other _ _ _ _ (by simp)).trans ((World.cell?_setCell_other _ _ _ _ (by simp)).trans ((World.cell?_setCell_other _ _ _ _ (by simp)).trans r4W5)))))
        have y0 : (((((W5.setCell ⟨w.heap.size + 1, 0, none⟩ (.int .i64 p)).setCell ⟨w.heap.size + 1, 1, none⟩ (.slice a4 ts.length k4)).setCell ⟨w.heap.size + 1, 2, none⟩ (.slice a5 ss.length k5)).setCell ⟨w.heap.size + 1, 3, none⟩ (.slice a6 ls.length k6)).setCell ⟨w.heap.size + 1, 4, none⟩ (.string str)).cell? ⟨w.heap.size, 0, none⟩ = some (.int .i64 p) := ((World.cell?_setCell_far _ _ _ _ (by simp)).trans ((World.cell?_setCell_far _ _ _ _ (by simp)).trans ((World.cell?_setCell_far _ _ _ _ (by simp)).trans ((World.cell?_setCell_far _ _ _ _ (by simp)).trans ((World.cell?_setCell_far _ _ _ _ (by simp)).trans b0W5)))))
        have y1 : (((((W5.setCell ⟨w.heap.size + 1, 0, none⟩ (.int .i64 p)).setCell ⟨w.heap.size + 1, 1, none⟩ (.slice a4 ts.length k4)).setCell ⟨w.heap.size + 1, 2, none⟩ (.slice a5 ss.length k5)).setCell ⟨w.heap.size + 1, 3, none⟩ (.slice a6 ls.length k6)).setCell ⟨w.heap.size + 1, 4, none⟩ (.string str)).cell? ⟨w.heap.size, 1, none⟩ = some (.slice at_ ts.length kt) := ((World.cell?_setCell_far _ _ _ _ (by simp)).trans ((World.cell?_setCell_far _ _ _ _ (by simp)).trans ((World.cell?_setCell_far _ _ _ _ (by simp)).trans ((World.cell?_setCell_far _ _ _ _ (by simp)).trans ((World.cell?_setCell_far _ _ _ _ (by simp)).trans b1W5)))))
        have y2 : (((((W5.setCell ⟨w.heap.size + 1, 0, none⟩ (.int .i64 p)).setCell ⟨w.heap.size + 1, 1, none⟩ (.slice a4 ts.length k4)).setCell ⟨w.heap.size + 1, 2, none⟩ (.slice a5 ss.length k5)).setCell ⟨w.heap.size + 1, 3, none⟩ (.slice a6 ls.length k6)).setCell ⟨w.heap.size + 1, 4, none⟩ (.string str)).cell? ⟨w.heap.size, 2, none⟩ = some (.slice as_ ss.length ks) := ((World.cell?_setCell_far _ _ _ _ (by simp)).trans ((World.cell?_setCell_far _ _ _ _ (by simp)).trans ((World.cell?_setCell_far _ _ _ _ (by simp)).trans ((World.cell?_setCell_far _ _ _ _ (by simp)).trans ((World.cell?_setCell_far _ _ _ _ (by simp)).trans b2W5)))))
        have y3 : (((((W5.setCell ⟨w.heap.size + 1, 0, none⟩ (.int .i64 p)).setCell ⟨w.heap.size + 1, 1, none⟩ (.slice a4 ts.length k4)).setCell ⟨w.heap.size + 1, 2, none⟩ (.slice a5 ss.length k5)).setCell ⟨w.heap.size + 1, 3, none⟩ (.slice a6 ls.length k6)).setCell ⟨w.heap.size + 1, 4, none⟩ (.string str)).cell? ⟨w.heap.size, 3, none⟩ = some (.slice al_ ls.length kl) := ((World.cell?_setCell_far _ _ _ _ (by simp)).trans ((World.cell?_setCell_far _ _ _ _ (by simp)).trans ((World.cell?_setCell_far _ _ _ _ (by simp)).trans ((World.cell?_setCell_far _ _ _ _ (by simp)).trans ((World.cell?_setCell_far _ _ _ _ (by simp)).trans b3W5)))))
        have y4 : (((((W5.setCell ⟨w.heap.size + 1, 0, none⟩ (.int .i64 p)).setCell ⟨w.heap.size + 1, 1, none⟩ (.slice a4 ts.length k4)).setCell ⟨w.heap.size + 1, 2, none⟩ (.slice a5 ss.length k5)).setCell ⟨w.heap.size + 1, 3, none⟩ (.slice a6 ls.length k6)).setCell ⟨w.heap.size + 1, 4, none⟩ (.string str)).cell? ⟨w.heap.size, 4, none⟩ = some (.string str) := ((World.cell?_setCell_far _ _ _ _ (by simp)).trans ((World.cell?_setCell_far _ _ _ _ (by simp)).trans ((World.cell?_setCell_far _ _ _ _ (by simp)).trans ((World.cell?_setCell_far _ _ _ _ (by simp)).trans ((World.cell?_setCell_far _ _ _ _ (by simp)).trans b4W5)))))
        have belX : Below w.heap.size w (((((W5.setCell ⟨w.heap.size + 1, 0, none⟩ (.int .i64 p)).setCell ⟨w.heap.size + 1, 1, none⟩ (.slice a4 ts.length k4)).setCell ⟨w.heap.size + 1, 2, none⟩ (.slice a5 ss.length k5)).setCell ⟨w.heap.size + 1, 3, none⟩ (.slice a6 ls.length k6)).setCell ⟨w.heap.size + 1, 4, none⟩ (.string str)) := (((((belW5.setCell (by show w.heap.size ≤ w.heap.size + 1; omega) _).setCell (by show w.heap.size ≤ w.heap.size + 1; omega) _).setCell (by show w.heap.size ≤ w.heap.size + 1; omega) _).setCell (by show w.heap.size ≤ w.heap.size + 1; omega) _).setCell (by show w.heap.size ≤ w.heap.size + 1; omega) _)
        have HUX := Lib.hid (owns_set (owns_set (owns_set (owns_set (owns_set HUW5.out (p := ⟨w.heap.size + 1, 0, none⟩) (by simp) (.int .i64 p)) (p := ⟨w.heap.size + 1, 1, none⟩) (by simp) (.slice a4 ts.length k4)) (p := ⟨w.heap.size + 1, 2, none⟩) (by simp) (.slice a5 ss.length k5)) (p := ⟨w.heap.size + 1, 3, none⟩) (by simp) (.slice a6 ls.length k6)) (p := ⟨w.heap.size + 1, 4, none⟩) (by simp) (.string str))
        have HSX := Lib.hid (owns_set (owns_set (owns_set (owns_set (owns_set HSoW5.out (p := ⟨w.heap.size + 1, 0, none⟩) (by simp) (.int .i64 p)) (p := ⟨w.heap.size + 1, 1, none⟩) (by simp) (.slice a4 ts.length k4)) (p := ⟨w.heap.size + 1, 2, none⟩) (by simp) (.slice a5 ss.length k5)) (p := ⟨w.heap.size + 1, 3, none⟩) (by simp) (.slice a6 ls.length k6)) (p := ⟨w.heap.size + 1, 4, none⟩) (by simp) (.string str))
        have HLX := Lib.hid (owns_set (owns_set (owns_set (owns_set (owns_set HLoW5.out (p := ⟨w.heap.size + 1, 0, none⟩) (by simp) (.int .i64 p)) (p := ⟨w.heap.size + 1, 1, none⟩) (by simp) (.slice a4 ts.length k4)) (p := ⟨w.heap.size + 1, 2, none⟩) (by simp) (.slice a5 ss.length k5)) (p := ⟨w.heap.size + 1, 3, none⟩) (by simp) (.slice a6 ls.length k6)) (p := ⟨w.heap.size + 1, 4, none⟩) (by simp) (.string str))
        have HTX := Lib.hid (((((HTW5.out.set (p := ⟨w.heap.size + 1, 0, none⟩) (by simp) (.int .i64 p)).set (p := ⟨w.heap.size + 1, 1, none⟩) (by simp) (.slice a4 ts.length k4)).set (p := ⟨w.heap.size + 1, 2, none⟩) (by simp) (.slice a5 ss.length k5)).set (p := ⟨w.heap.size + 1, 3, none⟩) (by simp) (.slice a6 ls.length k6)).set (p := ⟨w.heap.size + 1, 4, none⟩) (by simp) (.string str))
        generalize ((((W5.setCell ⟨w.heap.size + 1, 0, none⟩ (.int .i64 p)).setCell ⟨w.heap.size + 1, 1, none⟩ (.slice a4 ts.length k4)).setCell ⟨w.heap.size + 1, 2, none⟩ (.slice a5 ss.length k5)).setCell ⟨w.heap.size + 1, 3, none⟩ (.slice a6 ls.length k6)).setCell ⟨w.heap.size + 1, 4, none⟩ (.string str) = WX at q0 q1 q2 q3 q4 y0 y1 y2 y3 y4 belX HUX HSX HLX HTX ⊢
        refine hK.out _ _ ⟨y0, y1, y2, y3, y4⟩ (fun hHeld => ?_)
        clear hK K
        try simp only [Act.put, List.setIfInBounds_toArray, List.set_cons_zero, List.set_cons_succ]
        refine wpAnyH_done (by kernel_rfl) ?_ _
        clear b0W5 b1W5 b2W5 b3W5 b4W5 r0W5 r1W5 r2W5 r3W5 r4W5 y0 y1 y2 y3 y4
        clear rf0W5 rf1W5 rf2W5 rf3W5 rf4W5
        go_wp2_with fail
        refine bodyPost_ret (v := .agg #[.int .i64 p, .slice a4 ts.length k4, .slice a5 ss.length k5, .slice a6 ls.length k6, .string str]) (by simp [results, Try.results58, go_sem, q0, q1, q2, q3, q4]) rfl ?_
        exact ⟨_, xs, _, _, rfl, Go.Joins.ownsRow_le HUX.out (by omega), HTX.out.low (by omega), Go.Joins.ownsRow_le HSX.out (by omega), Go.Joins.ownsRow_le HLX.out (by omega), belX⟩
      refine ar7 (fun K hK => ?_) AllReadyH.nil
      go_simp
      have hbb : Below W2.heap.size W2 (W2.alloc (.cells #[] 98)) := (Below.refl _ _).alloc (Nat.le_refl _) _
      have hown : (W2.alloc (.cells #[] 98)).ownsRow (w.heap.size + 2) 98 2 (.slice (some ⟨W2.heap.size, 0, none⟩) 0 0) 0 [] :=
        ⟨rfl, Or.inr ⟨W2.heap.size, 0, #[], rfl, by omega, heap_alloc_new W2 _, Nat.le_refl _, Nat.zero_le _, rfl, rfl⟩⟩
      generalize W2.alloc (.cells #[] 98) = W6 at hbb hown ⊢
      have b0W6 := cell_carry b0W2 (Carries.of 0 hbb)
      have b1W6 := cell_carry b1W2 (Carries.of 0 hbb)
      have b2W6 := cell_carry b2W2 (Carries.of 0 hbb)
      have b3W6 := cell_carry b3W2 (Carries.of 0 hbb)
      have b4W6 := cell_carry b4W2 (Carries.of 0 hbb)
      have r0W6 := cell_carry r0W2 (Carries.of 0 hbb)
      have r1W6 := cell_carry r1W2 (Carries.of 0 hbb)
      have r2W6 := cell_carry r2W2 (Carries.of 0 hbb)
      have r3W6 := cell_carry r3W2 (Carries.of 0 hbb)
      have r4W6 := cell_carry r4W2 (Carries.of 0 hbb)
      have rf0W6 := (hbb.frozen (p := ⟨w.heap.size + 1, 0, none⟩) (by simp; omega)).trans rf0W2
      have rf1W6 := (hbb.frozen (p := ⟨w.heap.size + 1, 1, none⟩) (by simp; omega)).trans rf1W2
      have rf2W6 := (hbb.frozen (p := ⟨w.heap.size + 1, 2, none⟩) (by simp; omega)).trans rf2W2
      have rf3W6 := (hbb.frozen (p := ⟨w.heap.size + 1, 3, none⟩) (by simp; omega)).trans rf3W2
      have rf4W6 := (hbb.frozen (p := ⟨w.heap.size + 1, 4, none⟩) (by simp; omega)).trans rf4W2
      have zdW6 := hbb.size
      have belW6 := belW2.trans (hbb.mono belW2.size)
      have HUW6 := Lib.hid (owns_after HUW2.out hbb)
      have HTW6 := Lib.hid (HTW2.out.after hbb)
      have HSeW6 := Lib.hid (owns_after HSeW2.out hbb)
      have HLeW6 := Lib.hid hown; clear hown hbb
      refine hK.out _ _ ⟨b0W6, b1W6, b2W6, b3W6, b4W6⟩ (fun hHeld => ?_)
      clear hK K
      try simp only [Act.put, List.setIfInBounds_toArray, List.set_cons_zero, List.set_cons_succ]
      refine rd6 (by kernel_rfl) (fun K hK => ?_)
      rw [if_pos (by rfl)]
      refine wp_append_sigs (.tmp 6) (.tmp 8) rfl (w.heap.size + 2) lo _ 0 [] rfl HSeW6.out _ ss rfl (HG.out.keep (Carries.of lo belW6)) (by omega) (by omega) ?_
      intro v' W7 hown hgrow
      simp only [Nat.zero_add, List.nil_append] at hown
      obtain ⟨a5, k5, rfl⟩ := owns_form hown
      have hne : ∀ k, k < w.heap.size + 2 → some k ≠ _ := fun k hk e => absurd (HSeW6.out.lt _ e.symm).1 (by omega)
      have b0W7 := hgrow.cell b0W6 (hne _ (by simp <;> omega))
      have b1W7 := hgrow.cell b1W6 (hne _ (by simp <;> omega))
      have b2W7 := hgrow.cell b2W6 (hne _ (by simp <;> omega))
      have b3W7 := hgrow.cell b3W6 (hne _ (by simp <;> omega))
      have b4W7 := hgrow.cell b4W6 (hne _ (by simp <;> omega))
      have r0W7 := hgrow.cell r0W6 (hne _ (by simp <;> omega))
      have r1W7 := hgrow.cell r1W6 (hne _ (by simp <;> omega))
      have r2W7 := hgrow.cell r2W6 (hne _ (by simp <;> omega))
      have r3W7 := hgrow.cell r3W6 (hne _ (by simp <;> omega))
      have r4W7 := hgrow.cell r4W6 (hne _ (by simp <;> omega))
      have rf0W7 := (World.frozen?_of_block (a := ⟨w.heap.size + 1, 0, none⟩) (hgrow.block (w.heap.size + 1) (by omega) (hne _ (by omega)))).trans rf0W6
      have rf1W7 := (World.frozen?_of_block (a := ⟨w.heap.size + 1, 1, none⟩) (hgrow.block (w.heap.size + 1) (by omega) (hne _ (by omega)))).trans rf1W6
      have rf2W7 := (World.frozen?_of_block (a := ⟨w.heap.size + 1, 2, none⟩) (hgrow.block (w.heap.size + 1) (by omega) (hne _ (by omega)))).trans rf2W6
      have rf3W7 := (World.frozen?_of_block (a := ⟨w.heap.size + 1, 3, none⟩) (hgrow.block (w.heap.size + 1) (by omega) (hne _ (by omega)))).trans rf3W6
      have rf4W7 := (World.frozen?_of_block (a := ⟨w.heap.size + 1, 4, none⟩) (hgrow.block (w.heap.size + 1) (by omega) (hne _ (by omega)))).trans rf4W6
      have zdW7 := hgrow.size
      have belW7 := belW6.grown hgrow belW6.size (fun g hg => by have := (HSeW6.out.lt g hg).1; omega)
      have HUW7 := Lib.hid (HUW6.out.kept hgrow (rows_apartT HUW6.out HSeW6.out (by decide)))
      have HTW7 := Lib.hid (HTW6.out.grownT HSeW6.out (by decide) hgrow)
      have HLeW7 := Lib.hid (HLeW6.out.kept hgrow (rows_apartT HLeW6.out HSeW6.out (by decide)))
      have HSoW7 := Lib.hid hown; clear hown hgrow hne
      refine hK.out _ _ ⟨b0W7, b1W7, b2W7, b3W7, b4W7⟩ (fun hHeld => ?_)
      clear hK K
      try simp only [Act.put, List.setIfInBounds_toArray, List.set_cons_zero, List.set_cons_succ]
      refine rd10 (by kernel_rfl) (fun K hK => ?_)
      rw [if_pos (by rfl)]
      refine wp_append_labs (.tmp 10) (.tmp 12) rfl (w.heap.size + 2) lo _ 0 [] rfl HLeW7.out _ ls rfl (HL.out.keep (Carries.of lo belW7)) (by omega) (by omega) ?_
      intro v' W8 hown hgrow
      simp only [Nat.zero_add, List.nil_append] at hown
      obtain ⟨a6, k6, rfl⟩ := owns_form hown
      have hne : ∀ k, k < w.heap.size + 2 → some k ≠ _ := fun k hk e => absurd (HLeW7.out.lt _ e.symm).1 (by omega)
      have b0W8 := hgrow.cell b0W7 (hne _ (by simp <;> omega))
      have b1W8 := hgrow.cell b1W7 (hne _ (by simp <;> omega))
      have b2W8 := hgrow.cell b2W7 (hne _ (by simp <;> omega))
      have b3W8 := hgrow.cell b3W7 (hne _ (by simp <;> omega))
      have b4W8 := hgrow.cell b4W7 (hne _ (by simp <;> omega))
      have r0W8 := hgrow.cell r0W7 (hne _ (by simp <;> omega))
      have r1W8 := hgrow.cell r1W7 (hne _ (by simp <;> omega))
      have r2W8 := hgrow.cell r2W7 (hne _ (by simp <;> omega))
      have r3W8 := hgrow.cell r3W7 (hne _ (by simp <;> omega))
      have r4W8 := hgrow.cell r4W7 (hne _ (by simp <;> omega))
      have rf0W8 := (World.frozen?_of_block (a := ⟨w.heap.size + 1, 0, none⟩) (hgrow.block (w.heap.size + 1) (by omega) (hne _ (by omega)))).trans rf0W7
      have rf1W8 := (World.frozen?_of_block (a := ⟨w.heap.size + 1, 1, none⟩) (hgrow.block (w.heap.size + 1) (by omega) (hne _ (by omega)))).trans rf1W7
      have rf2W8 := (World.frozen?_of_block (a := ⟨w.heap.size + 1, 2, none⟩) (hgrow.block (w.heap.size + 1) (by omega) (hne _ (by omega)))).trans rf2W7
      have rf3W8 := (World.frozen?_of_block (a := ⟨w.heap.size + 1, 3, none⟩) (hgrow.block (w.heap.size + 1) (by omega) (hne _ (by omega)))).trans rf3W7
      have rf4W8 := (World.frozen?_of_block (a := ⟨w.heap.size + 1, 4, none⟩) (hgrow.block (w.heap.size + 1) (by omega) (hne _ (by omega)))).trans rf4W7
      have zdW8 := hgrow.size
      have belW8 := belW7.grown hgrow belW7.size (fun g hg => by have := (HLeW7.out.lt g hg).1; omega)
      have HUW8 := Lib.hid (HUW7.out.kept hgrow (rows_apartT HUW7.out HLeW7.out (by decide)))
      have HTW8 := Lib.hid (HTW7.out.grownT HLeW7.out (by decide) hgrow)
      have HSoW8 := Lib.hid (HSoW7.out.kept hgrow (rows_apartT HSoW7.out HLeW7.out (by decide)))
      have HLoW8 := Lib.hid hown; clear hown hgrow hne
      refine hK.out _ _ ⟨b0W8, b1W8, b2W8, b3W8, b4W8⟩ (fun hHeld => ?_)
      clear hK K
      try simp only [Act.put, List.setIfInBounds_toArray, List.set_cons_zero, List.set_cons_succ]
      refine tk13 (v := ?_) (by kernel_rfl) (by kernel_rfl) (by kernel_rfl) (by first | exact fun _ _ _ h => h | exact fun _ _ _ h => absurd h.1 (by simp)) (Or.inl ⟨by rfl, ?_⟩) (by assumption) ?_
      rotate_left 1
      focus (intro wx hSw; (try dsimp only at hSw); go_simp; try (with_reducible rfl))
      try simp only [Act.put, List.setIfInBounds_toArray, List.set_cons_zero, List.set_cons_succ]
      refine rd14 (by kernel_rfl) (fun K hK => ?_)
      go_simp
      have q0 : (((((W8.setCell ⟨w.heap.size + 1, 0, none⟩ (.int .i64 p)).setCell ⟨w.heap.size + 1, 1, none⟩ (.slice a4 ts.length k4)).setCell ⟨w.heap.size + 1, 2, none⟩ (.slice a5 ss.length k5)).setCell ⟨w.heap.size + 1, 3, none⟩ (.slice a6 ls.length k6)).setCell ⟨w.heap.size + 1, 4, none⟩ (.string str)).cell? ⟨w.heap.size + 1, 0, none⟩ = some (.int .i64 p) := ((World.cell?_setCell_other _ _ _ _ (by simp)).trans ((World.cell?_setCell_other _ _ _ _ (by simp)).trans ((World.cell?_setCell_other _ _ _ _ (by simp)).trans ((World.cell?_setCell_other _ _ _ _ (by simp)).trans (World.cell?_setCell_same _ _ _ r0W8)))))
      have q1 : (((((W8.setCell ⟨w.heap.size + 1, 0, none⟩ (.int .i64 p)).setCell ⟨w.heap.size + 1, 1, none⟩ (.slice a4 ts.length k4)).setCell ⟨w.heap.size + 1, 2, none⟩ (.slice a5 ss.length k5)).setCell ⟨w.heap.size + 1, 3, none⟩ (.slice a6 ls.length k6)).setCell ⟨w.heap.size + 1, 4, none⟩ (.string str)).cell? ⟨w.heap.size + 1, 1, none⟩ = some (.slice a4 ts.length k4) := ((World.cell?_setCell_other _ _ _ _ (by simp)).trans ((World.cell?_setCell_other _ _ _ _ (by simp)).trans ((World.cell?_setCell_other _ _ _ _ (by simp)).trans (World.cell?_setCell_same _ _ _ ((World.cell?_setCell_other _ _ _ _ (by simp)).trans r1W8)))))
      have q2 : (((((W8.setCell ⟨w.heap.size + 1, 0, none⟩ (.int .i64 p)).setCell ⟨w.heap.size + 1, 1, none⟩ (.slice a4 ts.length k4)).setCell ⟨w.heap.size + 1, 2, none⟩ (.slice a5 ss.length k5)).setCell ⟨w.heap.size + 1, 3, none⟩ (.slice a6 ls.length k6)).setCell ⟨w.heap.size + 1, 4, none⟩ (.string str)).cell? ⟨w.heap.size + 1, 2, none⟩ = some (.slice a5 ss.length k5) := ((World.cell?_setCell_other _ _ _ _ (by simp)).trans ((World.cell?_setCell_other _ _ _ _ (by simp)).trans (World.cell?_setCell_same _ _ _ ((World.cell?_setCell_other _ _ _ _ (by simp)).trans ((World.cell?_setCell_other _ _ _ _ (by simp)).trans r2W8)))))
      have q3 : (((((W8.setCell ⟨w.heap.size + 1, 0, none⟩ (.int .i64 p)).setCell ⟨w.heap.size + 1, 1, none⟩ (.slice a4 ts.length k4)).setCell ⟨w.heap.size + 1, 2, none⟩ (.slice a5 ss.length k5)).setCell ⟨w.heap.size + 1, 3, none⟩ (.slice a6 ls.length k6)).setCell ⟨w.heap.size + 1, 4, none⟩ (.string str)).cell? ⟨w.heap.size + 1, 3, none⟩ = some (.slice a6 ls.length k6) := ((World.cell?_setCell_other _ _ _ _ (by simp)).trans (World.cell?_setCell_same _ _ _ ((World.cell?_setCell_other _ _ _ _ (by simp)).trans ((World.cell?_setCell_other _ _ _ _ (by simp)).trans ((World.cell?_setCell_other _ _ _ _ (by simp)).trans r3W8)))))
      have q4 : (((((W8.setCell ⟨w.heap.size + 1, 0, none⟩ (.int .i64 p)).setCell ⟨w.heap.size + 1, 1, none⟩ (.slice a4 ts.length k4)).setCell ⟨w.heap.size + 1, 2, none⟩ (.slice a5 ss.length k5)).setCell ⟨w.heap.size + 1, 3, none⟩ (.slice a6 ls.length k6)).setCell ⟨w.heap.size + 1, 4, none⟩ (.string str)).cell? ⟨w.heap.size + 1, 4, none⟩ = some (.string str) := (World.cell?_setCell_same _ _ _ ((World.cell?_setCell_other _ _ _ _ (by simp)).trans ((World.cell?_setCell_other _ _ _ _ (by simp)).trans ((World.cell?_setCell_other _ _ _ _ (by simp)).trans ((World.cell?_setCell_other _ _ _ _ (by simp)).trans r4W8)))))
      have y0 : (((((W8.setCell ⟨w.heap.size + 1, 0, none⟩ (.int .i64 p)).setCell ⟨w.heap.size + 1, 1, none⟩ (.slice a4 ts.length k4)).setCell ⟨w.heap.size + 1, 2, none⟩ (.slice a5 ss.length k5)).setCell ⟨w.heap.size + 1, 3, none⟩ (.slice a6 ls.length k6)).setCell ⟨w.heap.size + 1, 4, none⟩ (.string str)).cell? ⟨w.heap.size, 0, none⟩ = some (.int .i64 p) := ((World.cell?_setCell_far _ _ _ _ (by simp)).trans ((World.cell?_setCell_far _ _ _ _ (by simp)).trans ((World.cell?_setCell_far _ _ _ _ (by simp)).trans ((World.cell?_setCell_far _ _ _ _ (by simp)).trans ((World.cell?_setCell_far _ _ _ _ (by simp)).trans b0W8)))))
      have y1 : (((((W8.setCell ⟨w.heap.size + 1, 0, none⟩ (.int .i64 p)).setCell ⟨w.heap.size + 1, 1, none⟩ (.slice a4 ts.length k4)).setCell ⟨w.heap.size + 1, 2, none⟩ (.slice a5 ss.length k5)).setCell ⟨w.heap.size + 1, 3, none⟩ (.slice a6 ls.length k6)).setCell ⟨w.heap.size + 1, 4, none⟩ (.string str)).cell? ⟨w.heap.size, 1, none⟩ = some (.slice at_ ts.length kt) := ((World.cell?_setCell_far _ _ _ _ (by simp)).trans ((World.cell?_setCell_far _ _ _ _ (by simp)).trans ((World.cell?_setCell_far _ _ _ _ (by simp)).trans ((World.cell?_setCell_far _ _ _ _ (by simp)).trans ((World.cell?_setCell_far _ _ _ _ (by simp)).trans b1W8)))))
      have y2 : (((((W8.setCell ⟨w.heap.size + 1, 0, none⟩ (.int .i64 p)).setCell ⟨w.heap.size + 1, 1, none⟩ (.slice a4 ts.length k4)).setCell ⟨w.heap.size + 1, 2, none⟩ (.slice a5 ss.length k5)).setCell ⟨w.heap.size + 1, 3, none⟩ (.slice a6 ls.length k6)).setCell ⟨w.heap.size + 1, 4, none⟩ (.string str)).cell? ⟨w.heap.size, 2, none⟩ = some (.slice as_ ss.length ks) := ((World.cell?_setCell_far _ _ _ _ (by simp)).trans ((World.cell?_setCell_far _ _ _ _ (by simp)).trans ((World.cell?_setCell_far _ _ _ _ (by simp)).trans ((World.cell?_setCell_far _ _ _ _ (by simp)).trans ((World.cell?_setCell_far _ _ _ _ (by simp)).trans b2W8)))))
      have y3 : (((((W8.setCell ⟨w.heap.size + 1, 0, none⟩ (.int .i64 p)).setCell ⟨w.heap.size + 1, 1, none⟩ (.slice a4 ts.length k4)).setCell ⟨w.heap.size + 1, 2, none⟩ (.slice a5 ss.length k5)).setCell ⟨w.heap.size + 1, 3, none⟩ (.slice a6 ls.length k6)).setCell ⟨w.heap.size + 1, 4, none⟩ (.string str)).cell? ⟨w.heap.size, 3, none⟩ = some (.slice al_ ls.length kl) := ((World.cell?_setCell_far _ _ _ _ (by simp)).trans ((World.cell?_setCell_far _ _ _ _ (by simp)).trans ((World.cell?_setCell_far _ _ _ _ (by simp)).trans ((World.cell?_setCell_far _ _ _ _ (by simp)).trans ((World.cell?_setCell_far _ _ _ _ (by simp)).trans b3W8)))))
      have y4 : (((((W8.setCell ⟨w.heap.size + 1, 0, none⟩ (.int .i64 p)).setCell ⟨w.heap.size + 1, 1, none⟩ (.slice a4 ts.length k4)).setCell ⟨w.heap.size + 1, 2, none⟩ (.slice a5 ss.length k5)).setCell ⟨w.heap.size + 1, 3, none⟩ (.slice a6 ls.length k6)).setCell ⟨w.heap.size + 1, 4, none⟩ (.string str)).cell? ⟨w.heap.size, 4, none⟩ = some (.string str) := ((World.cell?_setCell_far _ _ _ _ (by simp)).trans ((World.cell?_setCell_far _ _ _ _ (by simp)).trans ((World.cell?_setCell_far _ _ _ _ (by simp)).trans ((World.cell?_setCell_far _ _ _ _ (by simp)).trans ((World.cell?_setCell_far _ _ _ _ (by simp)).trans b4W8)))))
      have belX : Below w.heap.size w (((((W8.setCell ⟨w.heap.size + 1, 0, none⟩ (.int .i64 p)).setCell ⟨w.heap.size + 1, 1, none⟩ (.slice a4 ts.length k4)).setCell ⟨w.heap.size + 1, 2, none⟩ (.slice a5 ss.length k5)).setCell ⟨w.heap.size + 1, 3, none⟩ (.slice a6 ls.length k6)).setCell ⟨w.heap.size + 1, 4, none⟩ (.string str)) := (((((belW8.setCell (by show w.heap.size ≤ w.heap.size + 1; omega) _).setCell (by show w.heap.size ≤ w.heap.size + 1; omega) _).setCell (by show w.heap.size ≤ w.heap.size + 1; omega) _).setCell (by show w.heap.size ≤ w.heap.size + 1; omega) _).setCell (by show w.heap.size ≤ w.heap.size + 1; omega) _)
      have HUX := Lib.hid (owns_set (owns_set (owns_set (owns_set (owns_set HUW8.out (p := ⟨w.heap.size + 1, 0, none⟩) (by simp) (.int .i64 p)) (p := ⟨w.heap.size + 1, 1, none⟩) (by simp) (.slice a4 ts.length k4)) (p := ⟨w.heap.size + 1, 2, none⟩) (by simp) (.slice a5 ss.length k5)) (p := ⟨w.heap.size + 1, 3, none⟩) (by simp) (.slice a6 ls.length k6)) (p := ⟨w.heap.size + 1, 4, none⟩) (by simp) (.string str))
      have HSX := Lib.hid (owns_set (owns_set (owns_set (owns_set (owns_set HSoW8.out (p := ⟨w.heap.size + 1, 0, none⟩) (by simp) (.int .i64 p)) (p := ⟨w.heap.size + 1, 1, none⟩) (by simp) (.slice a4 ts.length k4)) (p := ⟨w.heap.size + 1, 2, none⟩) (by simp) (.slice a5 ss.length k5)) (p := ⟨w.heap.size + 1, 3, none⟩) (by simp) (.slice a6 ls.length k6)) (p := ⟨w.heap.size + 1, 4, none⟩) (by simp) (.string str))
      have HLX := Lib.hid (owns_set (owns_set (owns_set (owns_set (owns_set HLoW8.out (p := ⟨w.heap.size + 1, 0, none⟩) (by simp) (.int .i64 p)) (p := ⟨w.heap.size + 1, 1, none⟩) (by simp) (.slice a4 ts.length k4)) (p := ⟨w.heap.size + 1, 2, none⟩) (by simp) (.slice a5 ss.length k5)) (p := ⟨w.heap.size + 1, 3, none⟩) (by simp) (.slice a6 ls.length k6)) (p := ⟨w.heap.size + 1, 4, none⟩) (by simp) (.string str))
      have HTX := Lib.hid (((((HTW8.out.set (p := ⟨w.heap.size + 1, 0, none⟩) (by simp) (.int .i64 p)).set (p := ⟨w.heap.size + 1, 1, none⟩) (by simp) (.slice a4 ts.length k4)).set (p := ⟨w.heap.size + 1, 2, none⟩) (by simp) (.slice a5 ss.length k5)).set (p := ⟨w.heap.size + 1, 3, none⟩) (by simp) (.slice a6 ls.length k6)).set (p := ⟨w.heap.size + 1, 4, none⟩) (by simp) (.string str))
      generalize ((((W8.setCell ⟨w.heap.size + 1, 0, none⟩ (.int .i64 p)).setCell ⟨w.heap.size + 1, 1, none⟩ (.slice a4 ts.length k4)).setCell ⟨w.heap.size + 1, 2, none⟩ (.slice a5 ss.length k5)).setCell ⟨w.heap.size + 1, 3, none⟩ (.slice a6 ls.length k6)).setCell ⟨w.heap.size + 1, 4, none⟩ (.string str) = WX at q0 q1 q2 q3 q4 y0 y1 y2 y3 y4 belX HUX HSX HLX HTX ⊢
      refine hK.out _ _ ⟨y0, y1, y2, y3, y4⟩ (fun hHeld => ?_)
      clear hK K
      try simp only [Act.put, List.setIfInBounds_toArray, List.set_cons_zero, List.set_cons_succ]
      refine wpAnyH_done (by kernel_rfl) ?_ _
      clear b0W8 b1W8 b2W8 b3W8 b4W8 r0W8 r1W8 r2W8 r3W8 r4W8 y0 y1 y2 y3 y4
      clear rf0W8 rf1W8 rf2W8 rf3W8 rf4W8
      go_wp2_with fail
      refine bodyPost_ret (v := .agg #[.int .i64 p, .slice a4 ts.length k4, .slice a5 ss.length k5, .slice a6 ls.length k6, .string str]) (by simp [results, Try.results58, go_sem, q0, q1, q2, q3, q4]) rfl ?_
      exact ⟨_, xs, _, _, rfl, Go.Joins.ownsRow_le HUX.out (by omega), HTX.out.low (by omega), Go.Joins.ownsRow_le HSX.out (by omega), Go.Joins.ownsRow_le HLX.out (by omega), belX⟩
    refine ar7 (fun K hK => ?_) AllReadyH.nil
    go_simp
    have hbb : Below W1.heap.size W1 (W1.alloc (.cells #[] 98)) := (Below.refl _ _).alloc (Nat.le_refl _) _
    have hown : (W1.alloc (.cells #[] 98)).ownsRow (w.heap.size + 2) 98 2 (.slice (some ⟨W1.heap.size, 0, none⟩) 0 0) 0 [] :=
      ⟨rfl, Or.inr ⟨W1.heap.size, 0, #[], rfl, by omega, heap_alloc_new W1 _, Nat.le_refl _, Nat.zero_le _, rfl, rfl⟩⟩
    generalize W1.alloc (.cells #[] 98) = W9 at hbb hown ⊢
    have b0W9 := cell_carry b0W1 (Carries.of 0 hbb)
    have b1W9 := cell_carry b1W1 (Carries.of 0 hbb)
    have b2W9 := cell_carry b2W1 (Carries.of 0 hbb)
    have b3W9 := cell_carry b3W1 (Carries.of 0 hbb)
    have b4W9 := cell_carry b4W1 (Carries.of 0 hbb)
    have r0W9 := cell_carry r0W1 (Carries.of 0 hbb)
    have r1W9 := cell_carry r1W1 (Carries.of 0 hbb)
    have r2W9 := cell_carry r2W1 (Carries.of 0 hbb)
    have r3W9 := cell_carry r3W1 (Carries.of 0 hbb)
    have r4W9 := cell_carry r4W1 (Carries.of 0 hbb)
    have rf0W9 := (hbb.frozen (p := ⟨w.heap.size + 1, 0, none⟩) (by simp; omega)).trans rf0W1
    have rf1W9 := (hbb.frozen (p := ⟨w.heap.size + 1, 1, none⟩) (by simp; omega)).trans rf1W1
    have rf2W9 := (hbb.frozen (p := ⟨w.heap.size + 1, 2, none⟩) (by simp; omega)).trans rf2W1
    have rf3W9 := (hbb.frozen (p := ⟨w.heap.size + 1, 3, none⟩) (by simp; omega)).trans rf3W1
    have rf4W9 := (hbb.frozen (p := ⟨w.heap.size + 1, 4, none⟩) (by simp; omega)).trans rf4W1
    have zdW9 := hbb.size
    have belW9 := belW1.trans (hbb.mono belW1.size)
    have HUW9 := Lib.hid (owns_after HUW1.out hbb)
    have HTW9 := Lib.hid (HTW1.out.after hbb)
    have HLeW9 := Lib.hid hown; clear hown hbb
    refine hK.out _ _ ⟨b0W9, b1W9, b2W9, b3W9, b4W9⟩ (fun hHeld => ?_)
    clear hK K
    try simp only [Act.put, List.setIfInBounds_toArray, List.set_cons_zero, List.set_cons_succ]
    refine rd3 (by kernel_rfl) (fun K hK => ?_)
    go_simp
    have hbb : Below W9.heap.size W9 (W9.alloc (.cells #[] 86)) := (Below.refl _ _).alloc (Nat.le_refl _) _
    have hown : (W9.alloc (.cells #[] 86)).ownsRow (w.heap.size + 2) 86 2 (.slice (some ⟨W9.heap.size, 0, none⟩) 0 0) 0 [] :=
      ⟨rfl, Or.inr ⟨W9.heap.size, 0, #[], rfl, by omega, heap_alloc_new W9 _, Nat.le_refl _, Nat.zero_le _, rfl, rfl⟩⟩
    generalize W9.alloc (.cells #[] 86) = W10 at hbb hown ⊢
    have b0W10 := cell_carry b0W9 (Carries.of 0 hbb)
    have b1W10 := cell_carry b1W9 (Carries.of 0 hbb)
    have b2W10 := cell_carry b2W9 (Carries.of 0 hbb)
    have b3W10 := cell_carry b3W9 (Carries.of 0 hbb)
    have b4W10 := cell_carry b4W9 (Carries.of 0 hbb)
    have r0W10 := cell_carry r0W9 (Carries.of 0 hbb)
    have r1W10 := cell_carry r1W9 (Carries.of 0 hbb)
    have r2W10 := cell_carry r2W9 (Carries.of 0 hbb)
    have r3W10 := cell_carry r3W9 (Carries.of 0 hbb)
    have r4W10 := cell_carry r4W9 (Carries.of 0 hbb)
    have rf0W10 := (hbb.frozen (p := ⟨w.heap.size + 1, 0, none⟩) (by simp; omega)).trans rf0W9
    have rf1W10 := (hbb.frozen (p := ⟨w.heap.size + 1, 1, none⟩) (by simp; omega)).trans rf1W9
    have rf2W10 := (hbb.frozen (p := ⟨w.heap.size + 1, 2, none⟩) (by simp; omega)).trans rf2W9
    have rf3W10 := (hbb.frozen (p := ⟨w.heap.size + 1, 3, none⟩) (by simp; omega)).trans rf3W9
    have rf4W10 := (hbb.frozen (p := ⟨w.heap.size + 1, 4, none⟩) (by simp; omega)).trans rf4W9
    have zdW10 := hbb.size
    have belW10 := belW9.trans (hbb.mono belW9.size)
    have HUW10 := Lib.hid (owns_after HUW9.out hbb)
    have HTW10 := Lib.hid (HTW9.out.after hbb)
    have HLeW10 := Lib.hid (owns_after HLeW9.out hbb)
    have HSeW10 := Lib.hid hown; clear hown hbb
    refine hK.out _ _ ⟨b0W10, b1W10, b2W10, b3W10, b4W10⟩ (fun hHeld => ?_)
    clear hK K
    try simp only [Act.put, List.setIfInBounds_toArray, List.set_cons_zero, List.set_cons_succ]
    refine rd6 (by kernel_rfl) (fun K hK => ?_)
    rw [if_pos (by rfl)]
    refine wp_append_sigs (.tmp 6) (.tmp 8) rfl (w.heap.size + 2) lo _ 0 [] rfl HSeW10.out _ ss rfl (HG.out.keep (Carries.of lo belW10)) (by omega) (by omega) ?_
    intro v' W11 hown hgrow
    simp only [Nat.zero_add, List.nil_append] at hown
    obtain ⟨a5, k5, rfl⟩ := owns_form hown
    have hne : ∀ k, k < w.heap.size + 2 → some k ≠ _ := fun k hk e => absurd (HSeW10.out.lt _ e.symm).1 (by omega)
    have b0W11 := hgrow.cell b0W10 (hne _ (by simp <;> omega))
    have b1W11 := hgrow.cell b1W10 (hne _ (by simp <;> omega))
    have b2W11 := hgrow.cell b2W10 (hne _ (by simp <;> omega))
    have b3W11 := hgrow.cell b3W10 (hne _ (by simp <;> omega))
    have b4W11 := hgrow.cell b4W10 (hne _ (by simp <;> omega))
    have r0W11 := hgrow.cell r0W10 (hne _ (by simp <;> omega))
    have r1W11 := hgrow.cell r1W10 (hne _ (by simp <;> omega))
    have r2W11 := hgrow.cell r2W10 (hne _ (by simp <;> omega))
    have r3W11 := hgrow.cell r3W10 (hne _ (by simp <;> omega))
    have r4W11 := hgrow.cell r4W10 (hne _ (by simp <;> omega))
    have rf0W11 := (World.frozen?_of_block (a := ⟨w.heap.size + 1, 0, none⟩) (hgrow.block (w.heap.size + 1) (by omega) (hne _ (by omega)))).trans rf0W10
    have rf1W11 := (World.frozen?_of_block (a := ⟨w.heap.size + 1, 1, none⟩) (hgrow.block (w.heap.size + 1) (by omega) (hne _ (by omega)))).trans rf1W10
    have rf2W11 := (World.frozen?_of_block (a := ⟨w.heap.size + 1, 2, none⟩) (hgrow.block (w.heap.size + 1) (by omega) (hne _ (by omega)))).trans rf2W10
    have rf3W11 := (World.frozen?_of_block (a := ⟨w.heap.size + 1, 3, none⟩) (hgrow.block (w.heap.size + 1) (by omega) (hne _ (by omega)))).trans rf3W10
    have rf4W11 := (World.frozen?_of_block (a := ⟨w.heap.size + 1, 4, none⟩) (hgrow.block (w.heap.size + 1) (by omega) (hne _ (by omega)))).trans rf4W10
    have zdW11 := hgrow.size
    have belW11 := belW10.grown hgrow belW10.size (fun g hg => by have := (HSeW10.out.lt g hg).1; omega)
    have HUW11 := Lib.hid (HUW10.out.kept hgrow (rows_apartT HUW10.out HSeW10.out (by decide)))
    have HTW11 := Lib.hid (HTW10.out.grownT HSeW10.out (by decide) hgrow)
    have HLeW11 := Lib.hid (HLeW10.out.kept hgrow (rows_apartT HLeW10.out HSeW10.out (by decide)))
    have HSoW11 := Lib.hid hown; clear hown hgrow hne
    refine hK.out _ _ ⟨b0W11, b1W11, b2W11, b3W11, b4W11⟩ (fun hHeld => ?_)
    clear hK K
    try simp only [Act.put, List.setIfInBounds_toArray, List.set_cons_zero, List.set_cons_succ]
    refine rd10 (by kernel_rfl) (fun K hK => ?_)
    rw [if_pos (by rfl)]
    refine wp_append_labs (.tmp 10) (.tmp 12) rfl (w.heap.size + 2) lo _ 0 [] rfl HLeW11.out _ ls rfl (HL.out.keep (Carries.of lo belW11)) (by omega) (by omega) ?_
    intro v' W12 hown hgrow
    simp only [Nat.zero_add, List.nil_append] at hown
    obtain ⟨a6, k6, rfl⟩ := owns_form hown
    have hne : ∀ k, k < w.heap.size + 2 → some k ≠ _ := fun k hk e => absurd (HLeW11.out.lt _ e.symm).1 (by omega)
    have b0W12 := hgrow.cell b0W11 (hne _ (by simp <;> omega))
    have b1W12 := hgrow.cell b1W11 (hne _ (by simp <;> omega))
    have b2W12 := hgrow.cell b2W11 (hne _ (by simp <;> omega))
    have b3W12 := hgrow.cell b3W11 (hne _ (by simp <;> omega))
    have b4W12 := hgrow.cell b4W11 (hne _ (by simp <;> omega))
    have r0W12 := hgrow.cell r0W11 (hne _ (by simp <;> omega))
    have r1W12 := hgrow.cell r1W11 (hne _ (by simp <;> omega))
    have r2W12 := hgrow.cell r2W11 (hne _ (by simp <;> omega))
    have r3W12 := hgrow.cell r3W11 (hne _ (by simp <;> omega))
    have r4W12 := hgrow.cell r4W11 (hne _ (by simp <;> omega))
    have rf0W12 := (World.frozen?_of_block (a := ⟨w.heap.size + 1, 0, none⟩) (hgrow.block (w.heap.size + 1) (by omega) (hne _ (by omega)))).trans rf0W11
    have rf1W12 := (World.frozen?_of_block (a := ⟨w.heap.size + 1, 1, none⟩) (hgrow.block (w.heap.size + 1) (by omega) (hne _ (by omega)))).trans rf1W11
    have rf2W12 := (World.frozen?_of_block (a := ⟨w.heap.size + 1, 2, none⟩) (hgrow.block (w.heap.size + 1) (by omega) (hne _ (by omega)))).trans rf2W11
    have rf3W12 := (World.frozen?_of_block (a := ⟨w.heap.size + 1, 3, none⟩) (hgrow.block (w.heap.size + 1) (by omega) (hne _ (by omega)))).trans rf3W11
    have rf4W12 := (World.frozen?_of_block (a := ⟨w.heap.size + 1, 4, none⟩) (hgrow.block (w.heap.size + 1) (by omega) (hne _ (by omega)))).trans rf4W11
    have zdW12 := hgrow.size
    have belW12 := belW11.grown hgrow belW11.size (fun g hg => by have := (HLeW11.out.lt g hg).1; omega)
    have HUW12 := Lib.hid (HUW11.out.kept hgrow (rows_apartT HUW11.out HLeW11.out (by decide)))
    have HTW12 := Lib.hid (HTW11.out.grownT HLeW11.out (by decide) hgrow)
    have HSoW12 := Lib.hid (HSoW11.out.kept hgrow (rows_apartT HSoW11.out HLeW11.out (by decide)))
    have HLoW12 := Lib.hid hown; clear hown hgrow hne
    refine hK.out _ _ ⟨b0W12, b1W12, b2W12, b3W12, b4W12⟩ (fun hHeld => ?_)
    clear hK K
    try simp only [Act.put, List.setIfInBounds_toArray, List.set_cons_zero, List.set_cons_succ]
    refine tk13 (v := ?_) (by kernel_rfl) (by kernel_rfl) (by kernel_rfl) (by first | exact fun _ _ _ h => h | exact fun _ _ _ h => absurd h.1 (by simp)) (Or.inl ⟨by rfl, ?_⟩) (by assumption) ?_
    rotate_left 1
    focus (intro wx hSw; (try dsimp only at hSw); go_simp; try (with_reducible rfl))
    try simp only [Act.put, List.setIfInBounds_toArray, List.set_cons_zero, List.set_cons_succ]
    refine rd14 (by kernel_rfl) (fun K hK => ?_)
    go_simp
    have q0 : (((((W12.setCell ⟨w.heap.size + 1, 0, none⟩ (.int .i64 p)).setCell ⟨w.heap.size + 1, 1, none⟩ (.slice a4 ts.length k4)).setCell ⟨w.heap.size + 1, 2, none⟩ (.slice a5 ss.length k5)).setCell ⟨w.heap.size + 1, 3, none⟩ (.slice a6 ls.length k6)).setCell ⟨w.heap.size + 1, 4, none⟩ (.string str)).cell? ⟨w.heap.size + 1, 0, none⟩ = some (.int .i64 p) := ((World.cell?_setCell_other _ _ _ _ (by simp)).trans ((World.cell?_setCell_other _ _ _ _ (by simp)).trans ((World.cell?_setCell_other _ _ _ _ (by simp)).trans ((World.cell?_setCell_other _ _ _ _ (by simp)).trans (World.cell?_setCell_same _ _ _ r0W12)))))
    have q1 : (((((W12.setCell ⟨w.heap.size + 1, 0, none⟩ (.int .i64 p)).setCell ⟨w.heap.size + 1, 1, none⟩ (.slice a4 ts.length k4)).setCell ⟨w.heap.size + 1, 2, none⟩ (.slice a5 ss.length k5)).setCell ⟨w.heap.size + 1, 3, none⟩ (.slice a6 ls.length k6)).setCell ⟨w.heap.size + 1, 4, none⟩ (.string str)).cell? ⟨w.heap.size + 1, 1, none⟩ = some (.slice a4 ts.length k4) := ((World.cell?_setCell_other _ _ _ _ (by simp)).trans ((World.cell?_setCell_other _ _ _ _ (by simp)).trans ((World.cell?_setCell_other _ _ _ _ (by simp)).trans (World.cell?_setCell_same _ _ _ ((World.cell?_setCell_other _ _ _ _ (by simp)).trans r1W12)))))
    have q2 : (((((W12.setCell ⟨w.heap.size + 1, 0, none⟩ (.int .i64 p)).setCell ⟨w.heap.size + 1, 1, none⟩ (.slice a4 ts.length k4)).setCell ⟨w.heap.size + 1, 2, none⟩ (.slice a5 ss.length k5)).setCell ⟨w.heap.size + 1, 3, none⟩ (.slice a6 ls.length k6)).setCell ⟨w.heap.size + 1, 4, none⟩ (.string str)).cell? ⟨w.heap.size + 1, 2, none⟩ = some (.slice a5 ss.length k5) := ((World.cell?_setCell_other _ _ _ _ (by simp)).trans ((World.cell?_setCell_other _ _ _ _ (by simp)).trans (World.cell?_setCell_same _ _ _ ((World.cell?_setCell_other _ _ _ _ (by simp)).trans ((World.cell?_setCell_other _ _ _ _ (by simp)).trans r2W12)))))
    have q3 : (((((W12.setCell ⟨w.heap.size + 1, 0, none⟩ (.int .i64 p)).setCell ⟨w.heap.size + 1, 1, none⟩ (.slice a4 ts.length k4)).setCell ⟨w.heap.size + 1, 2, none⟩ (.slice a5 ss.length k5)).setCell ⟨w.heap.size + 1, 3, none⟩ (.slice a6 ls.length k6)).setCell ⟨w.heap.size + 1, 4, none⟩ (.string str)).cell? ⟨w.heap.size + 1, 3, none⟩ = some (.slice a6 ls.length k6) := ((World.cell?_setCell_other _ _ _ _ (by simp)).trans (World.cell?_setCell_same _ _ _ ((World.cell?_setCell_other _ _ _ _ (by simp)).trans ((World.cell?_setCell_other _ _ _ _ (by simp)).trans ((World.cell?_setCell_other _ _ _ _ (by simp)).trans r3W12)))))
    have q4 : (((((W12.setCell ⟨w.heap.size + 1, 0, none⟩ (.int .i64 p)).setCell ⟨w.heap.size + 1, 1, none⟩ (.slice a4 ts.length k4)).setCell ⟨w.heap.size + 1, 2, none⟩ (.slice a5 ss.length k5)).setCell ⟨w.heap.size + 1, 3, none⟩ (.slice a6 ls.length k6)).setCell ⟨w.heap.size + 1, 4, none⟩ (.string str)).cell? ⟨w.heap.size + 1, 4, none⟩ = some (.string str) := (World.cell?_setCell_same _ _ _ ((World.cell?_setCell_other _ _ _ _ (by simp)).trans ((World.cell?_setCell_other _ _ _ _ (by simp)).trans ((World.cell?_setCell_other _ _ _ _ (by simp)).trans ((World.cell?_setCell_other _ _ _ _ (by simp)).trans r4W12)))))
    have y0 : (((((W12.setCell ⟨w.heap.size + 1, 0, none⟩ (.int .i64 p)).setCell ⟨w.heap.size + 1, 1, none⟩ (.slice a4 ts.length k4)).setCell ⟨w.heap.size + 1, 2, none⟩ (.slice a5 ss.length k5)).setCell ⟨w.heap.size + 1, 3, none⟩ (.slice a6 ls.length k6)).setCell ⟨w.heap.size + 1, 4, none⟩ (.string str)).cell? ⟨w.heap.size, 0, none⟩ = some (.int .i64 p) := ((World.cell?_setCell_far _ _ _ _ (by simp)).trans ((World.cell?_setCell_far _ _ _ _ (by simp)).trans ((World.cell?_setCell_far _ _ _ _ (by simp)).trans ((World.cell?_setCell_far _ _ _ _ (by simp)).trans ((World.cell?_setCell_far _ _ _ _ (by simp)).trans b0W12)))))
    have y1 : (((((W12.setCell ⟨w.heap.size + 1, 0, none⟩ (.int .i64 p)).setCell ⟨w.heap.size + 1, 1, none⟩ (.slice a4 ts.length k4)).setCell ⟨w.heap.size + 1, 2, none⟩ (.slice a5 ss.length k5)).setCell ⟨w.heap.size + 1, 3, none⟩ (.slice a6 ls.length k6)).setCell ⟨w.heap.size + 1, 4, none⟩ (.string str)).cell? ⟨w.heap.size, 1, none⟩ = some (.slice at_ ts.length kt) := ((World.cell?_setCell_far _ _ _ _ (by simp)).trans ((World.cell?_setCell_far _ _ _ _ (by simp)).trans ((World.cell?_setCell_far _ _ _ _ (by simp)).trans ((World.cell?_setCell_far _ _ _ _ (by simp)).trans ((World.cell?_setCell_far _ _ _ _ (by simp)).trans b1W12)))))
    have y2 : (((((W12.setCell ⟨w.heap.size + 1, 0, none⟩ (.int .i64 p)).setCell ⟨w.heap.size + 1, 1, none⟩ (.slice a4 ts.length k4)).setCell ⟨w.heap.size + 1, 2, none⟩ (.slice a5 ss.length k5)).setCell ⟨w.heap.size + 1, 3, none⟩ (.slice a6 ls.length k6)).setCell ⟨w.heap.size + 1, 4, none⟩ (.string str)).cell? ⟨w.heap.size, 2, none⟩ = some (.slice as_ ss.length ks) := ((World.cell?_setCell_far _ _ _ _ (by simp)).trans ((World.cell?_setCell_far _ _ _ _ (by simp)).trans ((World.cell?_setCell_far _ _ _ _ (by simp)).trans ((World.cell?_setCell_far _ _ _ _ (by simp)).trans ((World.cell?_setCell_far _ _ _ _ (by simp)).trans b2W12)))))
    have y3 : (((((W12.setCell ⟨w.heap.size + 1, 0, none⟩ (.int .i64 p)).setCell ⟨w.heap.size + 1, 1, none⟩ (.slice a4 ts.length k4)).setCell ⟨w.heap.size + 1, 2, none⟩ (.slice a5 ss.length k5)).setCell ⟨w.heap.size + 1, 3, none⟩ (.slice a6 ls.length k6)).setCell ⟨w.heap.size + 1, 4, none⟩ (.string str)).cell? ⟨w.heap.size, 3, none⟩ = some (.slice al_ ls.length kl) := ((World.cell?_setCell_far _ _ _ _ (by simp)).trans ((World.cell?_setCell_far _ _ _ _ (by simp)).trans ((World.cell?_setCell_far _ _ _ _ (by simp)).trans ((World.cell?_setCell_far _ _ _ _ (by simp)).trans ((World.cell?_setCell_far _ _ _ _ (by simp)).trans b3W12)))))
    have y4 : (((((W12.setCell ⟨w.heap.size + 1, 0, none⟩ (.int .i64 p)).setCell ⟨w.heap.size + 1, 1, none⟩ (.slice a4 ts.length k4)).setCell ⟨w.heap.size + 1, 2, none⟩ (.slice a5 ss.length k5)).setCell ⟨w.heap.size + 1, 3, none⟩ (.slice a6 ls.length k6)).setCell ⟨w.heap.size + 1, 4, none⟩ (.string str)).cell? ⟨w.heap.size, 4, none⟩ = some (.string str) := ((World.cell?_setCell_far _ _ _ _ (by simp)).trans ((World.cell?_setCell_far _ _ _ _ (by simp)).trans ((World.cell?_setCell_far _ _ _ _ (by simp)).trans ((World.cell?_setCell_far _ _ _ _ (by simp)).trans ((World.cell?_setCell_far _ _ _ _ (by simp)).trans b4W12)))))
    have belX : Below w.heap.size w (((((W12.setCell ⟨w.heap.size + 1, 0, none⟩ (.int .i64 p)).setCell ⟨w.heap.size + 1, 1, none⟩ (.slice a4 ts.length k4)).setCell ⟨w.heap.size + 1, 2, none⟩ (.slice a5 ss.length k5)).setCell ⟨w.heap.size + 1, 3, none⟩ (.slice a6 ls.length k6)).setCell ⟨w.heap.size + 1, 4, none⟩ (.string str)) := (((((belW12.setCell (by show w.heap.size ≤ w.heap.size + 1; omega) _).setCell (by show w.heap.size ≤ w.heap.size + 1; omega) _).setCell (by show w.heap.size ≤ w.heap.size + 1; omega) _).setCell (by show w.heap.size ≤ w.heap.size + 1; omega) _).setCell (by show w.heap.size ≤ w.heap.size + 1; omega) _)
    have HUX := Lib.hid (owns_set (owns_set (owns_set (owns_set (owns_set HUW12.out (p := ⟨w.heap.size + 1, 0, none⟩) (by simp) (.int .i64 p)) (p := ⟨w.heap.size + 1, 1, none⟩) (by simp) (.slice a4 ts.length k4)) (p := ⟨w.heap.size + 1, 2, none⟩) (by simp) (.slice a5 ss.length k5)) (p := ⟨w.heap.size + 1, 3, none⟩) (by simp) (.slice a6 ls.length k6)) (p := ⟨w.heap.size + 1, 4, none⟩) (by simp) (.string str))
    have HSX := Lib.hid (owns_set (owns_set (owns_set (owns_set (owns_set HSoW12.out (p := ⟨w.heap.size + 1, 0, none⟩) (by simp) (.int .i64 p)) (p := ⟨w.heap.size + 1, 1, none⟩) (by simp) (.slice a4 ts.length k4)) (p := ⟨w.heap.size + 1, 2, none⟩) (by simp) (.slice a5 ss.length k5)) (p := ⟨w.heap.size + 1, 3, none⟩) (by simp) (.slice a6 ls.length k6)) (p := ⟨w.heap.size + 1, 4, none⟩) (by simp) (.string str))
    have HLX := Lib.hid (owns_set (owns_set (owns_set (owns_set (owns_set HLoW12.out (p := ⟨w.heap.size + 1, 0, none⟩) (by simp) (.int .i64 p)) (p := ⟨w.heap.size + 1, 1, none⟩) (by simp) (.slice a4 ts.length k4)) (p := ⟨w.heap.size + 1, 2, none⟩) (by simp) (.slice a5 ss.length k5)) (p := ⟨w.heap.size + 1, 3, none⟩) (by simp) (.slice a6 ls.length k6)) (p := ⟨w.heap.size + 1, 4, none⟩) (by simp) (.string str))
    have HTX := Lib.hid (((((HTW12.out.set (p := ⟨w.heap.size + 1, 0, none⟩) (by simp) (.int .i64 p)).set (p := ⟨w.heap.size + 1, 1, none⟩) (by simp) (.slice a4 ts.length k4)).set (p := ⟨w.heap.size + 1, 2, none⟩) (by simp) (.slice a5 ss.length k5)).set (p := ⟨w.heap.size + 1, 3, none⟩) (by simp) (.slice a6 ls.length k6)).set (p := ⟨w.heap.size + 1, 4, none⟩) (by simp) (.string str))
    generalize ((((W12.setCell ⟨w.heap.size + 1, 0, none⟩ (.int .i64 p)).setCell ⟨w.heap.size + 1, 1, none⟩ (.slice a4 ts.length k4)).setCell ⟨w.heap.size + 1, 2, none⟩ (.slice a5 ss.length k5)).setCell ⟨w.heap.size + 1, 3, none⟩ (.slice a6 ls.length k6)).setCell ⟨w.heap.size + 1, 4, none⟩ (.string str) = WX at q0 q1 q2 q3 q4 y0 y1 y2 y3 y4 belX HUX HSX HLX HTX ⊢
    refine hK.out _ _ ⟨y0, y1, y2, y3, y4⟩ (fun hHeld => ?_)
    clear hK K
    try simp only [Act.put, List.setIfInBounds_toArray, List.set_cons_zero, List.set_cons_succ]
    refine wpAnyH_done (by kernel_rfl) ?_ _
    clear b0W12 b1W12 b2W12 b3W12 b4W12 r0W12 r1W12 r2W12 r3W12 r4W12 y0 y1 y2 y3 y4
    clear rf0W12 rf1W12 rf2W12 rf3W12 rf4W12
    go_wp2_with fail
    refine bodyPost_ret (v := .agg #[.int .i64 p, .slice a4 ts.length k4, .slice a5 ss.length k5, .slice a6 ls.length k6, .string str]) (by simp [results, Try.results58, go_sem, q0, q1, q2, q3, q4]) rfl ?_
    exact ⟨_, xs, _, _, rfl, Go.Joins.ownsRow_le HUX.out (by omega), HTX.out.low (by omega), Go.Joins.ownsRow_le HSX.out (by omega), Go.Joins.ownsRow_le HLX.out (by omega), belX⟩
  refine ar3 (fun K hK => ?_) ?_
  · go_simp
    have hbb : Below W0.heap.size W0 (W0.alloc (.cells #[] 86)) := (Below.refl _ _).alloc (Nat.le_refl _) _
    have hown : (W0.alloc (.cells #[] 86)).ownsRow (w.heap.size + 2) 86 2 (.slice (some ⟨W0.heap.size, 0, none⟩) 0 0) 0 [] :=
      ⟨rfl, Or.inr ⟨W0.heap.size, 0, #[], rfl, by omega, heap_alloc_new W0 _, Nat.le_refl _, Nat.zero_le _, rfl, rfl⟩⟩
    generalize W0.alloc (.cells #[] 86) = W13 at hbb hown ⊢
    have b0W13 := cell_carry b0W0 (Carries.of 0 hbb)
    have b1W13 := cell_carry b1W0 (Carries.of 0 hbb)
    have b2W13 := cell_carry b2W0 (Carries.of 0 hbb)
    have b3W13 := cell_carry b3W0 (Carries.of 0 hbb)
    have b4W13 := cell_carry b4W0 (Carries.of 0 hbb)
    have r0W13 := cell_carry r0W0 (Carries.of 0 hbb)
    have r1W13 := cell_carry r1W0 (Carries.of 0 hbb)
    have r2W13 := cell_carry r2W0 (Carries.of 0 hbb)
    have r3W13 := cell_carry r3W0 (Carries.of 0 hbb)
    have r4W13 := cell_carry r4W0 (Carries.of 0 hbb)
    have rf0W13 := (hbb.frozen (p := ⟨w.heap.size + 1, 0, none⟩) (by simp; omega)).trans rf0W0
    have rf1W13 := (hbb.frozen (p := ⟨w.heap.size + 1, 1, none⟩) (by simp; omega)).trans rf1W0
    have rf2W13 := (hbb.frozen (p := ⟨w.heap.size + 1, 2, none⟩) (by simp; omega)).trans rf2W0
    have rf3W13 := (hbb.frozen (p := ⟨w.heap.size + 1, 3, none⟩) (by simp; omega)).trans rf3W0
    have rf4W13 := (hbb.frozen (p := ⟨w.heap.size + 1, 4, none⟩) (by simp; omega)).trans rf4W0
    have zdW13 := hbb.size
    have belW13 := belW0.trans (hbb.mono belW0.size)
    have HSeW13 := Lib.hid hown; clear hown hbb
    refine hK.out _ _ ⟨b0W13, b1W13, b2W13, b3W13, b4W13⟩ (fun hHeld => ?_)
    clear hK K
    try simp only [Act.put, List.setIfInBounds_toArray, List.set_cons_zero, List.set_cons_succ]
    refine wpAnyH_ready (rs := [2, 7]) (by kernel_rfl) (by simp) ?_
    refine ar2 (fun K hK => ?_) ?_
    · go_simp
      refine (l1OwnN_any _ ⟨p, ts⟩ W13 lo (HN.out.keep (Carries.of lo belW13)) HS.out).mono ?_
      rintro e W14 ⟨u, xs, rfl, hou, hot, hbb⟩
      obtain ⟨a4, k4, rfl⟩ := owns_form hou
      simp only at hou hot
      have b0W14 := cell_carry b0W13 (Carries.of 0 hbb)
      have b1W14 := cell_carry b1W13 (Carries.of 0 hbb)
      have b2W14 := cell_carry b2W13 (Carries.of 0 hbb)
      have b3W14 := cell_carry b3W13 (Carries.of 0 hbb)
      have b4W14 := cell_carry b4W13 (Carries.of 0 hbb)
      have r0W14 := cell_carry r0W13 (Carries.of 0 hbb)
      have r1W14 := cell_carry r1W13 (Carries.of 0 hbb)
      have r2W14 := cell_carry r2W13 (Carries.of 0 hbb)
      have r3W14 := cell_carry r3W13 (Carries.of 0 hbb)
      have r4W14 := cell_carry r4W13 (Carries.of 0 hbb)
      have rf0W14 := (hbb.frozen (p := ⟨w.heap.size + 1, 0, none⟩) (by simp; omega)).trans rf0W13
      have rf1W14 := (hbb.frozen (p := ⟨w.heap.size + 1, 1, none⟩) (by simp; omega)).trans rf1W13
      have rf2W14 := (hbb.frozen (p := ⟨w.heap.size + 1, 2, none⟩) (by simp; omega)).trans rf2W13
      have rf3W14 := (hbb.frozen (p := ⟨w.heap.size + 1, 3, none⟩) (by simp; omega)).trans rf3W13
      have rf4W14 := (hbb.frozen (p := ⟨w.heap.size + 1, 4, none⟩) (by simp; omega)).trans rf4W13
      have zdW14 := hbb.size
      have belW14 := belW13.trans (hbb.mono belW13.size)
      have HSeW14 := Lib.hid (owns_after HSeW13.out hbb)
      have HUW14 := Lib.hid (Go.Joins.ownsRow_le (base' := w.heap.size + 2) hou (by omega))
      have HTW14 := Lib.hid (hot.low (B' := w.heap.size + 2) (by omega))
      clear hou hot hbb
      refine hK.out _ _ ⟨b0W14, b1W14, b2W14, b3W14, b4W14⟩ (fun hHeld => ?_)
      clear hK K
      try simp only [Act.put, List.setIfInBounds_toArray, List.set_cons_zero, List.set_cons_succ]
      refine wpAnyH_ready (rs := [6, 7]) (by kernel_rfl) (by simp) ?_
      refine ar6 (fun K hK => ?_) ?_
      · rw [if_pos (by rfl)]
        refine wp_append_sigs (.tmp 6) (.tmp 8) rfl (w.heap.size + 2) lo _ 0 [] rfl HSeW14.out _ ss rfl (HG.out.keep (Carries.of lo belW14)) (by omega) (by omega) ?_
        intro v' W15 hown hgrow
        simp only [Nat.zero_add, List.nil_append] at hown
        obtain ⟨a5, k5, rfl⟩ := owns_form hown
        have hne : ∀ k, k < w.heap.size + 2 → some k ≠ _ := fun k hk e => absurd (HSeW14.out.lt _ e.symm).1 (by omega)
        have b0W15 := hgrow.cell b0W14 (hne _ (by simp <;> omega))
        have b1W15 := hgrow.cell b1W14 (hne _ (by simp <;> omega))
        have b2W15 := hgrow.cell b2W14 (hne _ (by simp <;> omega))
        have b3W15 := hgrow.cell b3W14 (hne _ (by simp <;> omega))
        have b4W15 := hgrow.cell b4W14 (hne _ (by simp <;> omega))
        have r0W15 := hgrow.cell r0W14 (hne _ (by simp <;> omega))
        have r1W15 := hgrow.cell r1W14 (hne _ (by simp <;> omega))
        have r2W15 := hgrow.cell r2W14 (hne _ (by simp <;> omega))
        have r3W15 := hgrow.cell r3W14 (hne _ (by simp <;> omega))
        have r4W15 := hgrow.cell r4W14 (hne _ (by simp <;> omega))
        have rf0W15 := (World.frozen?_of_block (a := ⟨w.heap.size + 1, 0, none⟩) (hgrow.block (w.heap.size + 1) (by omega) (hne _ (by omega)))).trans rf0W14
        have rf1W15 := (World.frozen?_of_block (a := ⟨w.heap.size + 1, 1, none⟩) (hgrow.block (w.heap.size + 1) (by omega) (hne _ (by omega)))).trans rf1W14
        have rf2W15 := (World.frozen?_of_block (a := ⟨w.heap.size + 1, 2, none⟩) (hgrow.block (w.heap.size + 1) (by omega) (hne _ (by omega)))).trans rf2W14
        have rf3W15 := (World.frozen?_of_block (a := ⟨w.heap.size + 1, 3, none⟩) (hgrow.block (w.heap.size + 1) (by omega) (hne _ (by omega)))).trans rf3W14
        have rf4W15 := (World.frozen?_of_block (a := ⟨w.heap.size + 1, 4, none⟩) (hgrow.block (w.heap.size + 1) (by omega) (hne _ (by omega)))).trans rf4W14
        have zdW15 := hgrow.size
        have belW15 := belW14.grown hgrow belW14.size (fun g hg => by have := (HSeW14.out.lt g hg).1; omega)
        have HUW15 := Lib.hid (HUW14.out.kept hgrow (rows_apartT HUW14.out HSeW14.out (by decide)))
        have HTW15 := Lib.hid (HTW14.out.grownT HSeW14.out (by decide) hgrow)
        have HSoW15 := Lib.hid hown; clear hown hgrow hne
        refine hK.out _ _ ⟨b0W15, b1W15, b2W15, b3W15, b4W15⟩ (fun hHeld => ?_)
        clear hK K
        try simp only [Act.put, List.setIfInBounds_toArray, List.set_cons_zero, List.set_cons_succ]
        refine rd7 (by kernel_rfl) (fun K hK => ?_)
        go_simp
        have hbb : Below W15.heap.size W15 (W15.alloc (.cells #[] 98)) := (Below.refl _ _).alloc (Nat.le_refl _) _
        have hown : (W15.alloc (.cells #[] 98)).ownsRow (w.heap.size + 2) 98 2 (.slice (some ⟨W15.heap.size, 0, none⟩) 0 0) 0 [] :=
          ⟨rfl, Or.inr ⟨W15.heap.size, 0, #[], rfl, by omega, heap_alloc_new W15 _, Nat.le_refl _, Nat.zero_le _, rfl, rfl⟩⟩
        generalize W15.alloc (.cells #[] 98) = W16 at hbb hown ⊢
        have b0W16 := cell_carry b0W15 (Carries.of 0 hbb)
        have b1W16 := cell_carry b1W15 (Carries.of 0 hbb)
        have b2W16 := cell_carry b2W15 (Carries.of 0 hbb)
        have b3W16 := cell_carry b3W15 (Carries.of 0 hbb)
        have b4W16 := cell_carry b4W15 (Carries.of 0 hbb)
        have r0W16 := cell_carry r0W15 (Carries.of 0 hbb)
        have r1W16 := cell_carry r1W15 (Carries.of 0 hbb)
        have r2W16 := cell_carry r2W15 (Carries.of 0 hbb)
        have r3W16 := cell_carry r3W15 (Carries.of 0 hbb)
        have r4W16 := cell_carry r4W15 (Carries.of 0 hbb)
        have rf0W16 := (hbb.frozen (p := ⟨w.heap.size + 1, 0, none⟩) (by simp; omega)).trans rf0W15
        have rf1W16 := (hbb.frozen (p := ⟨w.heap.size + 1, 1, none⟩) (by simp; omega)).trans rf1W15
        have rf2W16 := (hbb.frozen (p := ⟨w.heap.size + 1, 2, none⟩) (by simp; omega)).trans rf2W15
        have rf3W16 := (hbb.frozen (p := ⟨w.heap.size + 1, 3, none⟩) (by simp; omega)).trans rf3W15
        have rf4W16 := (hbb.frozen (p := ⟨w.heap.size + 1, 4, none⟩) (by simp; omega)).trans rf4W15
        have zdW16 := hbb.size
        have belW16 := belW15.trans (hbb.mono belW15.size)
        have HUW16 := Lib.hid (owns_after HUW15.out hbb)
        have HTW16 := Lib.hid (HTW15.out.after hbb)
        have HSoW16 := Lib.hid (owns_after HSoW15.out hbb)
        have HLeW16 := Lib.hid hown; clear hown hbb
        refine hK.out _ _ ⟨b0W16, b1W16, b2W16, b3W16, b4W16⟩ (fun hHeld => ?_)
        clear hK K
        try simp only [Act.put, List.setIfInBounds_toArray, List.set_cons_zero, List.set_cons_succ]
        refine rd10 (by kernel_rfl) (fun K hK => ?_)
        rw [if_pos (by rfl)]
        refine wp_append_labs (.tmp 10) (.tmp 12) rfl (w.heap.size + 2) lo _ 0 [] rfl HLeW16.out _ ls rfl (HL.out.keep (Carries.of lo belW16)) (by omega) (by omega) ?_
        intro v' W17 hown hgrow
        simp only [Nat.zero_add, List.nil_append] at hown
        obtain ⟨a6, k6, rfl⟩ := owns_form hown
        have hne : ∀ k, k < w.heap.size + 2 → some k ≠ _ := fun k hk e => absurd (HLeW16.out.lt _ e.symm).1 (by omega)
        have b0W17 := hgrow.cell b0W16 (hne _ (by simp <;> omega))
        have b1W17 := hgrow.cell b1W16 (hne _ (by simp <;> omega))
        have b2W17 := hgrow.cell b2W16 (hne _ (by simp <;> omega))
        have b3W17 := hgrow.cell b3W16 (hne _ (by simp <;> omega))
        have b4W17 := hgrow.cell b4W16 (hne _ (by simp <;> omega))
        have r0W17 := hgrow.cell r0W16 (hne _ (by simp <;> omega))
        have r1W17 := hgrow.cell r1W16 (hne _ (by simp <;> omega))
        have r2W17 := hgrow.cell r2W16 (hne _ (by simp <;> omega))
        have r3W17 := hgrow.cell r3W16 (hne _ (by simp <;> omega))
        have r4W17 := hgrow.cell r4W16 (hne _ (by simp <;> omega))
        have rf0W17 := (World.frozen?_of_block (a := ⟨w.heap.size + 1, 0, none⟩) (hgrow.block (w.heap.size + 1) (by omega) (hne _ (by omega)))).trans rf0W16
        have rf1W17 := (World.frozen?_of_block (a := ⟨w.heap.size + 1, 1, none⟩) (hgrow.block (w.heap.size + 1) (by omega) (hne _ (by omega)))).trans rf1W16
        have rf2W17 := (World.frozen?_of_block (a := ⟨w.heap.size + 1, 2, none⟩) (hgrow.block (w.heap.size + 1) (by omega) (hne _ (by omega)))).trans rf2W16
        have rf3W17 := (World.frozen?_of_block (a := ⟨w.heap.size + 1, 3, none⟩) (hgrow.block (w.heap.size + 1) (by omega) (hne _ (by omega)))).trans rf3W16
        have rf4W17 := (World.frozen?_of_block (a := ⟨w.heap.size + 1, 4, none⟩) (hgrow.block (w.heap.size + 1) (by omega) (hne _ (by omega)))).trans rf4W16
        have zdW17 := hgrow.size
        have belW17 := belW16.grown hgrow belW16.size (fun g hg => by have := (HLeW16.out.lt g hg).1; omega)
        have HUW17 := Lib.hid (HUW16.out.kept hgrow (rows_apartT HUW16.out HLeW16.out (by decide)))
        have HTW17 := Lib.hid (HTW16.out.grownT HLeW16.out (by decide) hgrow)
        have HSoW17 := Lib.hid (HSoW16.out.kept hgrow (rows_apartT HSoW16.out HLeW16.out (by decide)))
        have HLoW17 := Lib.hid hown; clear hown hgrow hne
        refine hK.out _ _ ⟨b0W17, b1W17, b2W17, b3W17, b4W17⟩ (fun hHeld => ?_)
        clear hK K
        try simp only [Act.put, List.setIfInBounds_toArray, List.set_cons_zero, List.set_cons_succ]
        refine tk13 (v := ?_) (by kernel_rfl) (by kernel_rfl) (by kernel_rfl) (by first | exact fun _ _ _ h => h | exact fun _ _ _ h => absurd h.1 (by simp)) (Or.inl ⟨by rfl, ?_⟩) (by assumption) ?_
        rotate_left 1
        focus (intro wx hSw; (try dsimp only at hSw); go_simp; try (with_reducible rfl))
        try simp only [Act.put, List.setIfInBounds_toArray, List.set_cons_zero, List.set_cons_succ]
        refine rd14 (by kernel_rfl) (fun K hK => ?_)
        go_simp
        have q0 : (((((W17.setCell ⟨w.heap.size + 1, 0, none⟩ (.int .i64 p)).setCell ⟨w.heap.size + 1, 1, none⟩ (.slice a4 ts.length k4)).setCell ⟨w.heap.size + 1, 2, none⟩ (.slice a5 ss.length k5)).setCell ⟨w.heap.size + 1, 3, none⟩ (.slice a6 ls.length k6)).setCell ⟨w.heap.size + 1, 4, none⟩ (.string str)).cell? ⟨w.heap.size + 1, 0, none⟩ = some (.int .i64 p) := ((World.cell?_setCell_other _ _ _ _ (by simp)).trans ((World.cell?_setCell_other _ _ _ _ (by simp)).trans ((World.cell?_setCell_other _ _ _ _ (by simp)).trans ((World.cell?_setCell_other _ _ _ _ (by simp)).trans (World.cell?_setCell_same _ _ _ r0W17)))))
        have q1 : (((((W17.setCell ⟨w.heap.size + 1, 0, none⟩ (.int .i64 p)).setCell ⟨w.heap.size + 1, 1, none⟩ (.slice a4 ts.length k4)).setCell ⟨w.heap.size + 1, 2, none⟩ (.slice a5 ss.length k5)).setCell ⟨w.heap.size + 1, 3, none⟩ (.slice a6 ls.length k6)).setCell ⟨w.heap.size + 1, 4, none⟩ (.string str)).cell? ⟨w.heap.size + 1, 1, none⟩ = some (.slice a4 ts.length k4) := ((World.cell?_setCell_other _ _ _ _ (by simp)).trans ((World.cell?_setCell_other _ _ _ _ (by simp)).trans ((World.cell?_setCell_other _ _ _ _ (by simp)).trans (World.cell?_setCell_same _ _ _ ((World.cell?_setCell_other _ _ _ _ (by simp)).trans r1W17)))))
        have q2 : (((((W17.setCell ⟨w.heap.size + 1, 0, none⟩ (.int .i64 p)).setCell ⟨w.heap.size + 1, 1, none⟩ (.slice a4 ts.length k4)).setCell ⟨w.heap.size + 1, 2, none⟩ (.slice a5 ss.length k5)).setCell ⟨w.heap.size + 1, 3, none⟩ (.slice a6 ls.length k6)).setCell ⟨w.heap.size + 1, 4, none⟩ (.string str)).cell? ⟨w.heap.size + 1, 2, none⟩ = some (.slice a5 ss.length k5) := ((World.cell?_setCell_other _ _ _ _ (by simp)).trans ((World.cell?_setCell_other _ _ _ _ (by simp)).trans (World.cell?_setCell_same _ _ _ ((World.cell?_setCell_other _ _ _ _ (by simp)).trans ((World.cell?_setCell_other _ _ _ _ (by simp)).trans r2W17)))))
        have q3 : (((((W17.setCell ⟨w.heap.size + 1, 0, none⟩ (.int .i64 p)).setCell ⟨w.heap.size + 1, 1, none⟩ (.slice a4 ts.length k4)).setCell ⟨w.heap.size + 1, 2, none⟩ (.slice a5 ss.length k5)).setCell ⟨w.heap.size + 1, 3, none⟩ (.slice a6 ls.length k6)).setCell ⟨w.heap.size + 1, 4, none⟩ (.string str)).cell? ⟨w.heap.size + 1, 3, none⟩ = some (.slice a6 ls.length k6) := ((World.cell?_setCell_other _ _ _ _ (by simp)).trans (World.cell?_setCell_same _ _ _ ((World.cell?_setCell_other _ _ _ _ (by simp)).trans ((World.cell?_setCell_other _ _ _ _ (by simp)).trans ((World.cell?_setCell_other _ _ _ _ (by simp)).trans r3W17)))))
        have q4 : (((((W17.setCell ⟨w.heap.size + 1, 0, none⟩ (.int .i64 p)).setCell ⟨w.heap.size + 1, 1, none⟩ (.slice a4 ts.length k4)).setCell ⟨w.heap.size + 1, 2, none⟩ (.slice a5 ss.length k5)).setCell ⟨w.heap.size + 1, 3, none⟩ (.slice a6 ls.length k6)).setCell ⟨w.heap.size + 1, 4, none⟩ (.string str)).cell? ⟨w.heap.size + 1, 4, none⟩ = some (.string str) := (World.cell?_setCell_same _ _ _ ((World.cell?_setCell_other _ _ _ _ (by simp)).trans ((World.cell?_setCell_other _ _ _ _ (by simp)).trans ((World.cell?_setCell_other _ _ _ _ (by simp)).trans ((World.cell?_setCell_other _ _ _ _ (by simp)).trans r4W17)))))
        have y0 : (((((W17.setCell ⟨w.heap.size + 1, 0, none⟩ (.int .i64 p)).setCell ⟨w.heap.size + 1, 1, none⟩ (.slice a4 ts.length k4)).setCell ⟨w.heap.size + 1, 2, none⟩ (.slice a5 ss.length k5)).setCell ⟨w.heap.size + 1, 3, none⟩ (.slice a6 ls.length k6)).setCell ⟨w.heap.size + 1, 4, none⟩ (.string str)).cell? ⟨w.heap.size, 0, none⟩ = some (.int .i64 p) := ((World.cell?_setCell_far _ _ _ _ (by simp)).trans ((World.cell?_setCell_far _ _ _ _ (by simp)).trans ((World.cell?_setCell_far _ _ _ _ (by simp)).trans ((World.cell?_setCell_far _ _ _ _ (by simp)).trans ((World.cell?_setCell_far _ _ _ _ (by simp)).trans b0W17)))))
        have y1 : (((((W17.setCell ⟨w.heap.size + 1, 0, none⟩ (.int .i64 p)).setCell ⟨w.heap.size + 1, 1, none⟩ (.slice a4 ts.length k4)).setCell ⟨w.heap.size + 1, 2, none⟩ (.slice a5 ss.length k5)).setCell ⟨w.heap.size + 1, 3, none⟩ (.slice a6 ls.length k6)).setCell ⟨w.heap.size + 1, 4, none⟩ (.string str)).cell? ⟨w.heap.size, 1, none⟩ = some (.slice at_ ts.length kt) := ((World.cell?_setCell_far _ _ _ _ (by simp)).trans ((World.cell?_setCell_far _ _ _ _ (by simp)).trans ((World.cell?_setCell_far _ _ _ _ (by simp)).trans ((World.cell?_setCell_far _ _ _ _ (by simp)).trans ((World.cell?_setCell_far _ _ _ _ (by simp)).trans b1W17)))))
        have y2 : (((((W17.setCell ⟨w.heap.size + 1, 0, none⟩ (.int .i64 p)).setCell ⟨w.heap.size + 1, 1, none⟩ (.slice a4 ts.length k4)).setCell ⟨w.heap.size + 1, 2, none⟩ (.slice a5 ss.length k5)).setCell ⟨w.heap.size + 1, 3, none⟩ (.slice a6 ls.length k6)).setCell ⟨w.heap.size + 1, 4, none⟩ (.string str)).cell? ⟨w.heap.size, 2, none⟩ = some (.slice as_ ss.length ks) := ((World.cell?_setCell_far _ _ _ _ (by simp)).trans ((World.cell?_setCell_far _ _ _ _ (by simp)).trans ((World.cell?_setCell_far _ _ _ _ (by simp)).trans ((World.cell?_setCell_far _ _ _ _ (by simp)).trans ((World.cell?_setCell_far _ _ _ _ (by simp)).trans b2W17)))))
        have y3 : (((((W17.setCell ⟨w.heap.size + 1, 0, none⟩ (.int .i64 p)).setCell ⟨w.heap.size + 1, 1, none⟩ (.slice a4 ts.length k4)).setCell ⟨w.heap.size + 1, 2, none⟩ (.slice a5 ss.length k5)).setCell ⟨w.heap.size + 1, 3, none⟩ (.slice a6 ls.length k6)).setCell ⟨w.heap.size + 1, 4, none⟩ (.string str)).cell? ⟨w.heap.size, 3, none⟩ = some (.slice al_ ls.length kl) := ((World.cell?_setCell_far _ _ _ _ (by simp)).trans ((World.cell?_setCell_far _ _ _ _ (by simp)).trans ((World.cell?_setCell_far _ _ _ _ (by simp)).trans ((World.cell?_setCell_far _ _ _ _ (by simp)).trans ((World.cell?_setCell_far _ _ _ _ (by simp)).trans b3W17)))))
        have y4 : (((((W17.setCell ⟨w.heap.size + 1, 0, none⟩ (.int .i64 p)).setCell ⟨w.heap.size + 1, 1, none⟩ (.slice a4 ts.length k4)).setCell ⟨w.heap.size + 1, 2, none⟩ (.slice a5 ss.length k5)).setCell ⟨w.heap.size + 1, 3, none⟩ (.slice a6 ls.length k6)).setCell ⟨w.heap.size + 1, 4, none⟩ (.string str)).cell? ⟨w.heap.size, 4, none⟩ = some (.string str) := ((World.cell?_setCell_far _ _ _ _ (by simp)).trans ((World.cell?_setCell_far _ _ _ _ (by simp)).trans ((World.cell?_setCell_far _ _ _ _ (by simp)).trans ((World.cell?_setCell_far _ _ _ _ (by simp)).trans ((World.cell?_setCell_far _ _ _ _ (by simp)).trans b4W17)))))
        have belX : Below w.heap.size w (((((W17.setCell ⟨w.heap.size + 1, 0, none⟩ (.int .i64 p)).setCell ⟨w.heap.size + 1, 1, none⟩ (.slice a4 ts.length k4)).setCell ⟨w.heap.size + 1, 2, none⟩ (.slice a5 ss.length k5)).setCell ⟨w.heap.size + 1, 3, none⟩ (.slice a6 ls.length k6)).setCell ⟨w.heap.size + 1, 4, none⟩ (.string str)) := (((((belW17.setCell (by show w.heap.size ≤ w.heap.size + 1; omega) _).setCell (by show w.heap.size ≤ w.heap.size + 1; omega) _).setCell (by show w.heap.size ≤ w.heap.size + 1; omega) _).setCell (by show w.heap.size ≤ w.heap.size + 1; omega) _).setCell (by show w.heap.size ≤ w.heap.size + 1; omega) _)
        have HUX := Lib.hid (owns_set (owns_set (owns_set (owns_set (owns_set HUW17.out (p := ⟨w.heap.size + 1, 0, none⟩) (by simp) (.int .i64 p)) (p := ⟨w.heap.size + 1, 1, none⟩) (by simp) (.slice a4 ts.length k4)) (p := ⟨w.heap.size + 1, 2, none⟩) (by simp) (.slice a5 ss.length k5)) (p := ⟨w.heap.size + 1, 3, none⟩) (by simp) (.slice a6 ls.length k6)) (p := ⟨w.heap.size + 1, 4, none⟩) (by simp) (.string str))
        have HSX := Lib.hid (owns_set (owns_set (owns_set (owns_set (owns_set HSoW17.out (p := ⟨w.heap.size + 1, 0, none⟩) (by simp) (.int .i64 p)) (p := ⟨w.heap.size + 1, 1, none⟩) (by simp) (.slice a4 ts.length k4)) (p := ⟨w.heap.size + 1, 2, none⟩) (by simp) (.slice a5 ss.length k5)) (p := ⟨w.heap.size + 1, 3, none⟩) (by simp) (.slice a6 ls.length k6)) (p := ⟨w.heap.size + 1, 4, none⟩) (by simp) (.string str))
        have HLX := Lib.hid (owns_set (owns_set (owns_set (owns_set (owns_set HLoW17.out (p := ⟨w.heap.size + 1, 0, none⟩) (by simp) (.int .i64 p)) (p := ⟨w.heap.size + 1, 1, none⟩) (by simp) (.slice a4 ts.length k4)) (p := ⟨w.heap.size + 1, 2, none⟩) (by simp) (.slice a5 ss.length k5)) (p := ⟨w.heap.size + 1, 3, none⟩) (by simp) (.slice a6 ls.length k6)) (p := ⟨w.heap.size + 1, 4, none⟩) (by simp) (.string str))
        have HTX := Lib.hid (((((HTW17.out.set (p := ⟨w.heap.size + 1, 0, none⟩) (by simp) (.int .i64 p)).set (p := ⟨w.heap.size + 1, 1, none⟩) (by simp) (.slice a4 ts.length k4)).set (p := ⟨w.heap.size + 1, 2, none⟩) (by simp) (.slice a5 ss.length k5)).set (p := ⟨w.heap.size + 1, 3, none⟩) (by simp) (.slice a6 ls.length k6)).set (p := ⟨w.heap.size + 1, 4, none⟩) (by simp) (.string str))
        generalize ((((W17.setCell ⟨w.heap.size + 1, 0, none⟩ (.int .i64 p)).setCell ⟨w.heap.size + 1, 1, none⟩ (.slice a4 ts.length k4)).setCell ⟨w.heap.size + 1, 2, none⟩ (.slice a5 ss.length k5)).setCell ⟨w.heap.size + 1, 3, none⟩ (.slice a6 ls.length k6)).setCell ⟨w.heap.size + 1, 4, none⟩ (.string str) = WX at q0 q1 q2 q3 q4 y0 y1 y2 y3 y4 belX HUX HSX HLX HTX ⊢
        refine hK.out _ _ ⟨y0, y1, y2, y3, y4⟩ (fun hHeld => ?_)
        clear hK K
        try simp only [Act.put, List.setIfInBounds_toArray, List.set_cons_zero, List.set_cons_succ]
        refine wpAnyH_done (by kernel_rfl) ?_ _
        clear b0W17 b1W17 b2W17 b3W17 b4W17 r0W17 r1W17 r2W17 r3W17 r4W17 y0 y1 y2 y3 y4
        clear rf0W17 rf1W17 rf2W17 rf3W17 rf4W17
        go_wp2_with fail
        refine bodyPost_ret (v := .agg #[.int .i64 p, .slice a4 ts.length k4, .slice a5 ss.length k5, .slice a6 ls.length k6, .string str]) (by simp [results, Try.results58, go_sem, q0, q1, q2, q3, q4]) rfl ?_
        exact ⟨_, xs, _, _, rfl, Go.Joins.ownsRow_le HUX.out (by omega), HTX.out.low (by omega), Go.Joins.ownsRow_le HSX.out (by omega), Go.Joins.ownsRow_le HLX.out (by omega), belX⟩
      refine ar7 (fun K hK => ?_) AllReadyH.nil
      go_simp
      have hbb : Below W14.heap.size W14 (W14.alloc (.cells #[] 98)) := (Below.refl _ _).alloc (Nat.le_refl _) _
      have hown : (W14.alloc (.cells #[] 98)).ownsRow (w.heap.size + 2) 98 2 (.slice (some ⟨W14.heap.size, 0, none⟩) 0 0) 0 [] :=
        ⟨rfl, Or.inr ⟨W14.heap.size, 0, #[], rfl, by omega, heap_alloc_new W14 _, Nat.le_refl _, Nat.zero_le _, rfl, rfl⟩⟩
      generalize W14.alloc (.cells #[] 98) = W18 at hbb hown ⊢
      have b0W18 := cell_carry b0W14 (Carries.of 0 hbb)
      have b1W18 := cell_carry b1W14 (Carries.of 0 hbb)
      have b2W18 := cell_carry b2W14 (Carries.of 0 hbb)
      have b3W18 := cell_carry b3W14 (Carries.of 0 hbb)
      have b4W18 := cell_carry b4W14 (Carries.of 0 hbb)
      have r0W18 := cell_carry r0W14 (Carries.of 0 hbb)
      have r1W18 := cell_carry r1W14 (Carries.of 0 hbb)
      have r2W18 := cell_carry r2W14 (Carries.of 0 hbb)
      have r3W18 := cell_carry r3W14 (Carries.of 0 hbb)
      have r4W18 := cell_carry r4W14 (Carries.of 0 hbb)
      have rf0W18 := (hbb.frozen (p := ⟨w.heap.size + 1, 0, none⟩) (by simp; omega)).trans rf0W14
      have rf1W18 := (hbb.frozen (p := ⟨w.heap.size + 1, 1, none⟩) (by simp; omega)).trans rf1W14
      have rf2W18 := (hbb.frozen (p := ⟨w.heap.size + 1, 2, none⟩) (by simp; omega)).trans rf2W14
      have rf3W18 := (hbb.frozen (p := ⟨w.heap.size + 1, 3, none⟩) (by simp; omega)).trans rf3W14
      have rf4W18 := (hbb.frozen (p := ⟨w.heap.size + 1, 4, none⟩) (by simp; omega)).trans rf4W14
      have zdW18 := hbb.size
      have belW18 := belW14.trans (hbb.mono belW14.size)
      have HSeW18 := Lib.hid (owns_after HSeW14.out hbb)
      have HUW18 := Lib.hid (owns_after HUW14.out hbb)
      have HTW18 := Lib.hid (HTW14.out.after hbb)
      have HLeW18 := Lib.hid hown; clear hown hbb
      refine hK.out _ _ ⟨b0W18, b1W18, b2W18, b3W18, b4W18⟩ (fun hHeld => ?_)
      clear hK K
      try simp only [Act.put, List.setIfInBounds_toArray, List.set_cons_zero, List.set_cons_succ]
      refine rd6 (by kernel_rfl) (fun K hK => ?_)
      rw [if_pos (by rfl)]
      refine wp_append_sigs (.tmp 6) (.tmp 8) rfl (w.heap.size + 2) lo _ 0 [] rfl HSeW18.out _ ss rfl (HG.out.keep (Carries.of lo belW18)) (by omega) (by omega) ?_
      intro v' W19 hown hgrow
      simp only [Nat.zero_add, List.nil_append] at hown
      obtain ⟨a5, k5, rfl⟩ := owns_form hown
      have hne : ∀ k, k < w.heap.size + 2 → some k ≠ _ := fun k hk e => absurd (HSeW18.out.lt _ e.symm).1 (by omega)
      have b0W19 := hgrow.cell b0W18 (hne _ (by simp <;> omega))
      have b1W19 := hgrow.cell b1W18 (hne _ (by simp <;> omega))
      have b2W19 := hgrow.cell b2W18 (hne _ (by simp <;> omega))
      have b3W19 := hgrow.cell b3W18 (hne _ (by simp <;> omega))
      have b4W19 := hgrow.cell b4W18 (hne _ (by simp <;> omega))
      have r0W19 := hgrow.cell r0W18 (hne _ (by simp <;> omega))
      have r1W19 := hgrow.cell r1W18 (hne _ (by simp <;> omega))
      have r2W19 := hgrow.cell r2W18 (hne _ (by simp <;> omega))
      have r3W19 := hgrow.cell r3W18 (hne _ (by simp <;> omega))
      have r4W19 := hgrow.cell r4W18 (hne _ (by simp <;> omega))
      have rf0W19 := (World.frozen?_of_block (a := ⟨w.heap.size + 1, 0, none⟩) (hgrow.block (w.heap.size + 1) (by omega) (hne _ (by omega)))).trans rf0W18
      have rf1W19 := (World.frozen?_of_block (a := ⟨w.heap.size + 1, 1, none⟩) (hgrow.block (w.heap.size + 1) (by omega) (hne _ (by omega)))).trans rf1W18
      have rf2W19 := (World.frozen?_of_block (a := ⟨w.heap.size + 1, 2, none⟩) (hgrow.block (w.heap.size + 1) (by omega) (hne _ (by omega)))).trans rf2W18
      have rf3W19 := (World.frozen?_of_block (a := ⟨w.heap.size + 1, 3, none⟩) (hgrow.block (w.heap.size + 1) (by omega) (hne _ (by omega)))).trans rf3W18
      have rf4W19 := (World.frozen?_of_block (a := ⟨w.heap.size + 1, 4, none⟩) (hgrow.block (w.heap.size + 1) (by omega) (hne _ (by omega)))).trans rf4W18
      have zdW19 := hgrow.size
      have belW19 := belW18.grown hgrow belW18.size (fun g hg => by have := (HSeW18.out.lt g hg).1; omega)
      have HUW19 := Lib.hid (HUW18.out.kept hgrow (rows_apartT HUW18.out HSeW18.out (by decide)))
      have HTW19 := Lib.hid (HTW18.out.grownT HSeW18.out (by decide) hgrow)
      have HLeW19 := Lib.hid (HLeW18.out.kept hgrow (rows_apartT HLeW18.out HSeW18.out (by decide)))
      have HSoW19 := Lib.hid hown; clear hown hgrow hne
      refine hK.out _ _ ⟨b0W19, b1W19, b2W19, b3W19, b4W19⟩ (fun hHeld => ?_)
      clear hK K
      try simp only [Act.put, List.setIfInBounds_toArray, List.set_cons_zero, List.set_cons_succ]
      refine rd10 (by kernel_rfl) (fun K hK => ?_)
      rw [if_pos (by rfl)]
      refine wp_append_labs (.tmp 10) (.tmp 12) rfl (w.heap.size + 2) lo _ 0 [] rfl HLeW19.out _ ls rfl (HL.out.keep (Carries.of lo belW19)) (by omega) (by omega) ?_
      intro v' W20 hown hgrow
      simp only [Nat.zero_add, List.nil_append] at hown
      obtain ⟨a6, k6, rfl⟩ := owns_form hown
      have hne : ∀ k, k < w.heap.size + 2 → some k ≠ _ := fun k hk e => absurd (HLeW19.out.lt _ e.symm).1 (by omega)
      have b0W20 := hgrow.cell b0W19 (hne _ (by simp <;> omega))
      have b1W20 := hgrow.cell b1W19 (hne _ (by simp <;> omega))
      have b2W20 := hgrow.cell b2W19 (hne _ (by simp <;> omega))
      have b3W20 := hgrow.cell b3W19 (hne _ (by simp <;> omega))
      have b4W20 := hgrow.cell b4W19 (hne _ (by simp <;> omega))
      have r0W20 := hgrow.cell r0W19 (hne _ (by simp <;> omega))
      have r1W20 := hgrow.cell r1W19 (hne _ (by simp <;> omega))
      have r2W20 := hgrow.cell r2W19 (hne _ (by simp <;> omega))
      have r3W20 := hgrow.cell r3W19 (hne _ (by simp <;> omega))
      have r4W20 := hgrow.cell r4W19 (hne _ (by simp <;> omega))
      have rf0W20 := (World.frozen?_of_block (a := ⟨w.heap.size + 1, 0, none⟩) (hgrow.block (w.heap.size + 1) (by omega) (hne _ (by omega)))).trans rf0W19
      have rf1W20 := (World.frozen?_of_block (a := ⟨w.heap.size + 1, 1, none⟩) (hgrow.block (w.heap.size + 1) (by omega) (hne _ (by omega)))).trans rf1W19
      have rf2W20 := (World.frozen?_of_block (a := ⟨w.heap.size + 1, 2, none⟩) (hgrow.block (w.heap.size + 1) (by omega) (hne _ (by omega)))).trans rf2W19
      have rf3W20 := (World.frozen?_of_block (a := ⟨w.heap.size + 1, 3, none⟩) (hgrow.block (w.heap.size + 1) (by omega) (hne _ (by omega)))).trans rf3W19
      have rf4W20 := (World.frozen?_of_block (a := ⟨w.heap.size + 1, 4, none⟩) (hgrow.block (w.heap.size + 1) (by omega) (hne _ (by omega)))).trans rf4W19
      have zdW20 := hgrow.size
      have belW20 := belW19.grown hgrow belW19.size (fun g hg => by have := (HLeW19.out.lt g hg).1; omega)
      have HUW20 := Lib.hid (HUW19.out.kept hgrow (rows_apartT HUW19.out HLeW19.out (by decide)))
      have HTW20 := Lib.hid (HTW19.out.grownT HLeW19.out (by decide) hgrow)
      have HSoW20 := Lib.hid (HSoW19.out.kept hgrow (rows_apartT HSoW19.out HLeW19.out (by decide)))
      have HLoW20 := Lib.hid hown; clear hown hgrow hne
      refine hK.out _ _ ⟨b0W20, b1W20, b2W20, b3W20, b4W20⟩ (fun hHeld => ?_)
      clear hK K
      try simp only [Act.put, List.setIfInBounds_toArray, List.set_cons_zero, List.set_cons_succ]
      refine tk13 (v := ?_) (by kernel_rfl) (by kernel_rfl) (by kernel_rfl) (by first | exact fun _ _ _ h => h | exact fun _ _ _ h => absurd h.1 (by simp)) (Or.inl ⟨by rfl, ?_⟩) (by assumption) ?_
      rotate_left 1
      focus (intro wx hSw; (try dsimp only at hSw); go_simp; try (with_reducible rfl))
      try simp only [Act.put, List.setIfInBounds_toArray, List.set_cons_zero, List.set_cons_succ]
      refine rd14 (by kernel_rfl) (fun K hK => ?_)
      go_simp
      have q0 : (((((W20.setCell ⟨w.heap.size + 1, 0, none⟩ (.int .i64 p)).setCell ⟨w.heap.size + 1, 1, none⟩ (.slice a4 ts.length k4)).setCell ⟨w.heap.size + 1, 2, none⟩ (.slice a5 ss.length k5)).setCell ⟨w.heap.size + 1, 3, none⟩ (.slice a6 ls.length k6)).setCell ⟨w.heap.size + 1, 4, none⟩ (.string str)).cell? ⟨w.heap.size + 1, 0, none⟩ = some (.int .i64 p) := ((World.cell?_setCell_other _ _ _ _ (by simp)).trans ((World.cell?_setCell_other _ _ _ _ (by simp)).trans ((World.cell?_setCell_other _ _ _ _ (by simp)).trans ((World.cell?_setCell_other _ _ _ _ (by simp)).trans (World.cell?_setCell_same _ _ _ r0W20)))))
      have q1 : (((((W20.setCell ⟨w.heap.size + 1, 0, none⟩ (.int .i64 p)).setCell ⟨w.heap.size + 1, 1, none⟩ (.slice a4 ts.length k4)).setCell ⟨w.heap.size + 1, 2, none⟩ (.slice a5 ss.length k5)).setCell ⟨w.heap.size + 1, 3, none⟩ (.slice a6 ls.length k6)).setCell ⟨w.heap.size + 1, 4, none⟩ (.string str)).cell? ⟨w.heap.size + 1, 1, none⟩ = some (.slice a4 ts.length k4) := ((World.cell?_setCell_other _ _ _ _ (by simp)).trans ((World.cell?_setCell_other _ _ _ _ (by simp)).trans ((World.cell?_setCell_other _ _ _ _ (by simp)).trans (World.cell?_setCell_same _ _ _ ((World.cell?_setCell_other _ _ _ _ (by simp)).trans r1W20)))))
      have q2 : (((((W20.setCell ⟨w.heap.size + 1, 0, none⟩ (.int .i64 p)).setCell ⟨w.heap.size + 1, 1, none⟩ (.slice a4 ts.length k4)).setCell ⟨w.heap.size + 1, 2, none⟩ (.slice a5 ss.length k5)).setCell ⟨w.heap.size + 1, 3, none⟩ (.slice a6 ls.length k6)).setCell ⟨w.heap.size + 1, 4, none⟩ (.string str)).cell? ⟨w.heap.size + 1, 2, none⟩ = some (.slice a5 ss.length k5) := ((World.cell?_setCell_other _ _ _ _ (by simp)).trans ((World.cell?_setCell_other _ _ _ _ (by simp)).trans (World.cell?_setCell_same _ _ _ ((World.cell?_setCell_other _ _ _ _ (by simp)).trans ((World.cell?_setCell_other _ _ _ _ (by simp)).trans r2W20)))))
      have q3 : (((((W20.setCell ⟨w.heap.size + 1, 0, none⟩ (.int .i64 p)).setCell ⟨w.heap.size + 1, 1, none⟩ (.slice a4 ts.length k4)).setCell ⟨w.heap.size + 1, 2, none⟩ (.slice a5 ss.length k5)).setCell ⟨w.heap.size + 1, 3, none⟩ (.slice a6 ls.length k6)).setCell ⟨w.heap.size + 1, 4, none⟩ (.string str)).cell? ⟨w.heap.size + 1, 3, none⟩ = some (.slice a6 ls.length k6) := ((World.cell?_setCell_other _ _ _ _ (by simp)).trans (World.cell?_setCell_same _ _ _ ((World.cell?_setCell_other _ _ _ _ (by simp)).trans ((World.cell?_setCell_other _ _ _ _ (by simp)).trans ((World.cell?_setCell_other _ _ _ _ (by simp)).trans r3W20)))))
      have q4 : (((((W20.setCell ⟨w.heap.size + 1, 0, none⟩ (.int .i64 p)).setCell ⟨w.heap.size + 1, 1, none⟩ (.slice a4 ts.length k4)).setCell ⟨w.heap.size + 1, 2, none⟩ (.slice a5 ss.length k5)).setCell ⟨w.heap.size + 1, 3, none⟩ (.slice a6 ls.length k6)).setCell ⟨w.heap.size + 1, 4, none⟩ (.string str)).cell? ⟨w.heap.size + 1, 4, none⟩ = some (.string str) := (World.cell?_setCell_same _ _ _ ((World.cell?_setCell_other _ _ _ _ (by simp)).trans ((World.cell?_setCell_other _ _ _ _ (by simp)).trans ((World.cell?_setCell_other _ _ _ _ (by simp)).trans ((World.cell?_setCell_other _ _ _ _ (by simp)).trans r4W20)))))
      have y0 : (((((W20.setCell ⟨w.heap.size + 1, 0, none⟩ (.int .i64 p)).setCell ⟨w.heap.size + 1, 1, none⟩ (.slice a4 ts.length k4)).setCell ⟨w.heap.size + 1, 2, none⟩ (.slice a5 ss.length k5)).setCell ⟨w.heap.size + 1, 3, none⟩ (.slice a6 ls.length k6)).setCell ⟨w.heap.size + 1, 4, none⟩ (.string str)).cell? ⟨w.heap.size, 0, none⟩ = some (.int .i64 p) := ((World.cell?_setCell_far _ _ _ _ (by simp)).trans ((World.cell?_setCell_far _ _ _ _ (by simp)).trans ((World.cell?_setCell_far _ _ _ _ (by simp)).trans ((World.cell?_setCell_far _ _ _ _ (by simp)).trans ((World.cell?_setCell_far _ _ _ _ (by simp)).trans b0W20)))))
      have y1 : (((((W20.setCell ⟨w.heap.size + 1, 0, none⟩ (.int .i64 p)).setCell ⟨w.heap.size + 1, 1, none⟩ (.slice a4 ts.length k4)).setCell ⟨w.heap.size + 1, 2, none⟩ (.slice a5 ss.length k5)).setCell ⟨w.heap.size + 1, 3, none⟩ (.slice a6 ls.length k6)).setCell ⟨w.heap.size + 1, 4, none⟩ (.string str)).cell? ⟨w.heap.size, 1, none⟩ = some (.slice at_ ts.length kt) := ((World.cell?_setCell_far _ _ _ _ (by simp)).trans ((World.cell?_setCell_far _ _ _ _ (by simp)).trans ((World.cell?_setCell_far _ _ _ _ (by simp)).trans ((World.cell?_setCell_far _ _ _ _ (by simp)).trans ((World.cell?_setCell_far _ _ _ _ (by simp)).trans b1W20)))))
      have y2 : (((((W20.setCell ⟨w.heap.size + 1, 0, none⟩ (.int .i64 p)).setCell ⟨w.heap.size + 1, 1, none⟩ (.slice a4 ts.length k4)).setCell ⟨w.heap.size + 1, 2, none⟩ (.slice a5 ss.length k5)).setCell ⟨w.heap.size + 1, 3, none⟩ (.slice a6 ls.length k6)).setCell ⟨w.heap.size + 1, 4, none⟩ (.string str)).cell? ⟨w.heap.size, 2, none⟩ = some (.slice as_ ss.length ks) := ((World.cell?_setCell_far _ _ _ _ (by simp)).trans ((World.cell?_setCell_far _ _ _ _ (by simp)).trans ((World.cell?_setCell_far _ _ _ _ (by simp)).trans ((World.cell?_setCell_far _ _ _ _ (by simp)).trans ((World.cell?_setCell_far _ _ _ _ (by simp)).trans b2W20)))))
      have y3 : (((((W20.setCell ⟨w.heap.size + 1, 0, none⟩ (.int .i64 p)).setCell ⟨w.heap.size + 1, 1, none⟩ (.slice a4 ts.length k4)).setCell ⟨w.heap.size + 1, 2, none⟩ (.slice a5 ss.length k5)).setCell ⟨w.heap.size + 1, 3, none⟩ (.slice a6 ls.length k6)).setCell ⟨w.heap.size + 1, 4, none⟩ (.string str)).cell? ⟨w.heap.size, 3, none⟩ = some (.slice al_ ls.length kl) := ((World.cell?_setCell_far _ _ _ _ (by simp)).trans ((World.cell?_setCell_far _ _ _ _ (by simp)).trans ((World.cell?_setCell_far _ _ _ _ (by simp)).trans ((World.cell?_setCell_far _ _ _ _ (by simp)).trans ((World.cell?_setCell_far _ _ _ _ (by simp)).trans b3W20)))))
      have y4 : (((((W20.setCell ⟨w.heap.size + 1, 0, none⟩ (.int .i64 p)).setCell ⟨w.heap.size + 1, 1, none⟩ (.slice a4 ts.length k4)).setCell ⟨w.heap.size + 1, 2, none⟩ (.slice a5 ss.length k5)).setCell ⟨w.heap.size + 1, 3, none⟩ (.slice a6 ls.length k6)).setCell ⟨w.heap.size + 1, 4, none⟩ (.string str)).cell? ⟨w.heap.size, 4, none⟩ = some (.string str) := ((World.cell?_setCell_far _ _ _ _ (by simp)).trans ((World.cell?_setCell_far _ _ _ _ (by simp)).trans ((World.cell?_setCell_far _ _ _ _ (by simp)).trans ((World.cell?_setCell_far _ _ _ _ (by simp)).trans ((World.cell?_setCell_far _ _ _ _ (by simp)).trans b4W20)))))
      have belX : Below w.heap.size w (((((W20.setCell ⟨w.heap.size + 1, 0, none⟩ (.int .i64 p)).setCell ⟨w.heap.size + 1, 1, none⟩ (.slice a4 ts.length k4)).setCell ⟨w.heap.size + 1, 2, none⟩ (.slice a5 ss.length k5)).setCell ⟨w.heap.size + 1, 3, none⟩ (.slice a6 ls.length k6)).setCell ⟨w.heap.size + 1, 4, none⟩ (.string str)) := (((((belW20.setCell (by show w.heap.size ≤ w.heap.size + 1; omega) _).setCell (by show w.heap.size ≤ w.heap.size + 1; omega) _).setCell (by show w.heap.size ≤ w.heap.size + 1; omega) _).setCell (by show w.heap.size ≤ w.heap.size + 1; omega) _).setCell (by show w.heap.size ≤ w.heap.size + 1; omega) _)
      have HUX := Lib.hid (owns_set (owns_set (owns_set (owns_set (owns_set HUW20.out (p := ⟨w.heap.size + 1, 0, none⟩) (by simp) (.int .i64 p)) (p := ⟨w.heap.size + 1, 1, none⟩) (by simp) (.slice a4 ts.length k4)) (p := ⟨w.heap.size + 1, 2, none⟩) (by simp) (.slice a5 ss.length k5)) (p := ⟨w.heap.size + 1, 3, none⟩) (by simp) (.slice a6 ls.length k6)) (p := ⟨w.heap.size + 1, 4, none⟩) (by simp) (.string str))
      have HSX := Lib.hid (owns_set (owns_set (owns_set (owns_set (owns_set HSoW20.out (p := ⟨w.heap.size + 1, 0, none⟩) (by simp) (.int .i64 p)) (p := ⟨w.heap.size + 1, 1, none⟩) (by simp) (.slice a4 ts.length k4)) (p := ⟨w.heap.size + 1, 2, none⟩) (by simp) (.slice a5 ss.length k5)) (p := ⟨w.heap.size + 1, 3, none⟩) (by simp) (.slice a6 ls.length k6)) (p := ⟨w.heap.size + 1, 4, none⟩) (by simp) (.string str))
      have HLX := Lib.hid (owns_set (owns_set (owns_set (owns_set (owns_set HLoW20.out (p := ⟨w.heap.size + 1, 0, none⟩) (by simp) (.int .i64 p)) (p := ⟨w.heap.size + 1, 1, none⟩) (by simp) (.slice a4 ts.length k4)) (p := ⟨w.heap.size + 1, 2, none⟩) (by simp) (.slice a5 ss.length k5)) (p := ⟨w.heap.size + 1, 3, none⟩) (by simp) (.slice a6 ls.length k6)) (p := ⟨w.heap.size + 1, 4, none⟩) (by simp) (.string str))
      have HTX := Lib.hid (((((HTW20.out.set (p := ⟨w.heap.size + 1, 0, none⟩) (by simp) (.int .i64 p)).set (p := ⟨w.heap.size + 1, 1, none⟩) (by simp) (.slice a4 ts.length k4)).set (p := ⟨w.heap.size + 1, 2, none⟩) (by simp) (.slice a5 ss.length k5)).set (p := ⟨w.heap.size + 1, 3, none⟩) (by simp) (.slice a6 ls.length k6)).set (p := ⟨w.heap.size + 1, 4, none⟩) (by simp) (.string str))
      generalize ((((W20.setCell ⟨w.heap.size + 1, 0, none⟩ (.int .i64 p)).setCell ⟨w.heap.size + 1, 1, none⟩ (.slice a4 ts.length k4)).setCell ⟨w.heap.size + 1, 2, none⟩ (.slice a5 ss.length k5)).setCell ⟨w.heap.size + 1, 3, none⟩ (.slice a6 ls.length k6)).setCell ⟨w.heap.size + 1, 4, none⟩ (.string str) = WX at q0 q1 q2 q3 q4 y0 y1 y2 y3 y4 belX HUX HSX HLX HTX ⊢
      refine hK.out _ _ ⟨y0, y1, y2, y3, y4⟩ (fun hHeld => ?_)
      clear hK K
      try simp only [Act.put, List.setIfInBounds_toArray, List.set_cons_zero, List.set_cons_succ]
      refine wpAnyH_done (by kernel_rfl) ?_ _
      clear b0W20 b1W20 b2W20 b3W20 b4W20 r0W20 r1W20 r2W20 r3W20 r4W20 y0 y1 y2 y3 y4
      clear rf0W20 rf1W20 rf2W20 rf3W20 rf4W20
      go_wp2_with fail
      refine bodyPost_ret (v := .agg #[.int .i64 p, .slice a4 ts.length k4, .slice a5 ss.length k5, .slice a6 ls.length k6, .string str]) (by simp [results, Try.results58, go_sem, q0, q1, q2, q3, q4]) rfl ?_
      exact ⟨_, xs, _, _, rfl, Go.Joins.ownsRow_le HUX.out (by omega), HTX.out.low (by omega), Go.Joins.ownsRow_le HSX.out (by omega), Go.Joins.ownsRow_le HLX.out (by omega), belX⟩
    refine ar7 (fun K hK => ?_) AllReadyH.nil
    go_simp
    have hbb : Below W13.heap.size W13 (W13.alloc (.cells #[] 98)) := (Below.refl _ _).alloc (Nat.le_refl _) _
    have hown : (W13.alloc (.cells #[] 98)).ownsRow (w.heap.size + 2) 98 2 (.slice (some ⟨W13.heap.size, 0, none⟩) 0 0) 0 [] :=
      ⟨rfl, Or.inr ⟨W13.heap.size, 0, #[], rfl, by omega, heap_alloc_new W13 _, Nat.le_refl _, Nat.zero_le _, rfl, rfl⟩⟩
    generalize W13.alloc (.cells #[] 98) = W21 at hbb hown ⊢
    have b0W21 := cell_carry b0W13 (Carries.of 0 hbb)
    have b1W21 := cell_carry b1W13 (Carries.of 0 hbb)
    have b2W21 := cell_carry b2W13 (Carries.of 0 hbb)
    have b3W21 := cell_carry b3W13 (Carries.of 0 hbb)
    have b4W21 := cell_carry b4W13 (Carries.of 0 hbb)
    have r0W21 := cell_carry r0W13 (Carries.of 0 hbb)
    have r1W21 := cell_carry r1W13 (Carries.of 0 hbb)
    have r2W21 := cell_carry r2W13 (Carries.of 0 hbb)
    have r3W21 := cell_carry r3W13 (Carries.of 0 hbb)
    have r4W21 := cell_carry r4W13 (Carries.of 0 hbb)
    have rf0W21 := (hbb.frozen (p := ⟨w.heap.size + 1, 0, none⟩) (by simp; omega)).trans rf0W13
    have rf1W21 := (hbb.frozen (p := ⟨w.heap.size + 1, 1, none⟩) (by simp; omega)).trans rf1W13
    have rf2W21 := (hbb.frozen (p := ⟨w.heap.size + 1, 2, none⟩) (by simp; omega)).trans rf2W13
    have rf3W21 := (hbb.frozen (p := ⟨w.heap.size + 1, 3, none⟩) (by simp; omega)).trans rf3W13
    have rf4W21 := (hbb.frozen (p := ⟨w.heap.size + 1, 4, none⟩) (by simp; omega)).trans rf4W13
    have zdW21 := hbb.size
    have belW21 := belW13.trans (hbb.mono belW13.size)
    have HSeW21 := Lib.hid (owns_after HSeW13.out hbb)
    have HLeW21 := Lib.hid hown; clear hown hbb
    refine hK.out _ _ ⟨b0W21, b1W21, b2W21, b3W21, b4W21⟩ (fun hHeld => ?_)
    clear hK K
    try simp only [Act.put, List.setIfInBounds_toArray, List.set_cons_zero, List.set_cons_succ]
    refine rd2 (by kernel_rfl) (fun K hK => ?_)
    go_simp
    refine (l1OwnN_any _ ⟨p, ts⟩ W21 lo (HN.out.keep (Carries.of lo belW21)) HS.out).mono ?_
    rintro e W22 ⟨u, xs, rfl, hou, hot, hbb⟩
    obtain ⟨a4, k4, rfl⟩ := owns_form hou
    simp only at hou hot
    have b0W22 := cell_carry b0W21 (Carries.of 0 hbb)
    have b1W22 := cell_carry b1W21 (Carries.of 0 hbb)
    have b2W22 := cell_carry b2W21 (Carries.of 0 hbb)
    have b3W22 := cell_carry b3W21 (Carries.of 0 hbb)
    have b4W22 := cell_carry b4W21 (Carries.of 0 hbb)
    have r0W22 := cell_carry r0W21 (Carries.of 0 hbb)
    have r1W22 := cell_carry r1W21 (Carries.of 0 hbb)
    have r2W22 := cell_carry r2W21 (Carries.of 0 hbb)
    have r3W22 := cell_carry r3W21 (Carries.of 0 hbb)
    have r4W22 := cell_carry r4W21 (Carries.of 0 hbb)
    have rf0W22 := (hbb.frozen (p := ⟨w.heap.size + 1, 0, none⟩) (by simp; omega)).trans rf0W21
    have rf1W22 := (hbb.frozen (p := ⟨w.heap.size + 1, 1, none⟩) (by simp; omega)).trans rf1W21
    have rf2W22 := (hbb.frozen (p := ⟨w.heap.size + 1, 2, none⟩) (by simp; omega)).trans rf2W21
    have rf3W22 := (hbb.frozen (p := ⟨w.heap.size + 1, 3, none⟩) (by simp; omega)).trans rf3W21
    have rf4W22 := (hbb.frozen (p := ⟨w.heap.size + 1, 4, none⟩) (by simp; omega)).trans rf4W21
    have zdW22 := hbb.size
    have belW22 := belW21.trans (hbb.mono belW21.size)
    have HSeW22 := Lib.hid (owns_after HSeW21.out hbb)
    have HLeW22 := Lib.hid (owns_after HLeW21.out hbb)
    have HUW22 := Lib.hid (Go.Joins.ownsRow_le (base' := w.heap.size + 2) hou (by omega))
    have HTW22 := Lib.hid (hot.low (B' := w.heap.size + 2) (by omega))
    clear hou hot hbb
    refine hK.out _ _ ⟨b0W22, b1W22, b2W22, b3W22, b4W22⟩ (fun hHeld => ?_)
    clear hK K
    try simp only [Act.put, List.setIfInBounds_toArray, List.set_cons_zero, List.set_cons_succ]
    refine rd6 (by kernel_rfl) (fun K hK => ?_)
    rw [if_pos (by rfl)]
    refine wp_append_sigs (.tmp 6) (.tmp 8) rfl (w.heap.size + 2) lo _ 0 [] rfl HSeW22.out _ ss rfl (HG.out.keep (Carries.of lo belW22)) (by omega) (by omega) ?_
    intro v' W23 hown hgrow
    simp only [Nat.zero_add, List.nil_append] at hown
    obtain ⟨a5, k5, rfl⟩ := owns_form hown
    have hne : ∀ k, k < w.heap.size + 2 → some k ≠ _ := fun k hk e => absurd (HSeW22.out.lt _ e.symm).1 (by omega)
    have b0W23 := hgrow.cell b0W22 (hne _ (by simp <;> omega))
    have b1W23 := hgrow.cell b1W22 (hne _ (by simp <;> omega))
    have b2W23 := hgrow.cell b2W22 (hne _ (by simp <;> omega))
    have b3W23 := hgrow.cell b3W22 (hne _ (by simp <;> omega))
    have b4W23 := hgrow.cell b4W22 (hne _ (by simp <;> omega))
    have r0W23 := hgrow.cell r0W22 (hne _ (by simp <;> omega))
    have r1W23 := hgrow.cell r1W22 (hne _ (by simp <;> omega))
    have r2W23 := hgrow.cell r2W22 (hne _ (by simp <;> omega))
    have r3W23 := hgrow.cell r3W22 (hne _ (by simp <;> omega))
    have r4W23 := hgrow.cell r4W22 (hne _ (by simp <;> omega))
    have rf0W23 := (World.frozen?_of_block (a := ⟨w.heap.size + 1, 0, none⟩) (hgrow.block (w.heap.size + 1) (by omega) (hne _ (by omega)))).trans rf0W22
    have rf1W23 := (World.frozen?_of_block (a := ⟨w.heap.size + 1, 1, none⟩) (hgrow.block (w.heap.size + 1) (by omega) (hne _ (by omega)))).trans rf1W22
    have rf2W23 := (World.frozen?_of_block (a := ⟨w.heap.size + 1, 2, none⟩) (hgrow.block (w.heap.size + 1) (by omega) (hne _ (by omega)))).trans rf2W22
    have rf3W23 := (World.frozen?_of_block (a := ⟨w.heap.size + 1, 3, none⟩) (hgrow.block (w.heap.size + 1) (by omega) (hne _ (by omega)))).trans rf3W22
    have rf4W23 := (World.frozen?_of_block (a := ⟨w.heap.size + 1, 4, none⟩) (hgrow.block (w.heap.size + 1) (by omega) (hne _ (by omega)))).trans rf4W22
    have zdW23 := hgrow.size
    have belW23 := belW22.grown hgrow belW22.size (fun g hg => by have := (HSeW22.out.lt g hg).1; omega)
    have HLeW23 := Lib.hid (HLeW22.out.kept hgrow (rows_apartT HLeW22.out HSeW22.out (by decide)))
    have HUW23 := Lib.hid (HUW22.out.kept hgrow (rows_apartT HUW22.out HSeW22.out (by decide)))
    have HTW23 := Lib.hid (HTW22.out.grownT HSeW22.out (by decide) hgrow)
    have HSoW23 := Lib.hid hown; clear hown hgrow hne
    refine hK.out _ _ ⟨b0W23, b1W23, b2W23, b3W23, b4W23⟩ (fun hHeld => ?_)
    clear hK K
    try simp only [Act.put, List.setIfInBounds_toArray, List.set_cons_zero, List.set_cons_succ]
    refine rd10 (by kernel_rfl) (fun K hK => ?_)
    rw [if_pos (by rfl)]
    refine wp_append_labs (.tmp 10) (.tmp 12) rfl (w.heap.size + 2) lo _ 0 [] rfl HLeW23.out _ ls rfl (HL.out.keep (Carries.of lo belW23)) (by omega) (by omega) ?_
    intro v' W24 hown hgrow
    simp only [Nat.zero_add, List.nil_append] at hown
    obtain ⟨a6, k6, rfl⟩ := owns_form hown
    have hne : ∀ k, k < w.heap.size + 2 → some k ≠ _ := fun k hk e => absurd (HLeW23.out.lt _ e.symm).1 (by omega)
    have b0W24 := hgrow.cell b0W23 (hne _ (by simp <;> omega))
    have b1W24 := hgrow.cell b1W23 (hne _ (by simp <;> omega))
    have b2W24 := hgrow.cell b2W23 (hne _ (by simp <;> omega))
    have b3W24 := hgrow.cell b3W23 (hne _ (by simp <;> omega))
    have b4W24 := hgrow.cell b4W23 (hne _ (by simp <;> omega))
    have r0W24 := hgrow.cell r0W23 (hne _ (by simp <;> omega))
    have r1W24 := hgrow.cell r1W23 (hne _ (by simp <;> omega))
    have r2W24 := hgrow.cell r2W23 (hne _ (by simp <;> omega))
    have r3W24 := hgrow.cell r3W23 (hne _ (by simp <;> omega))
    have r4W24 := hgrow.cell r4W23 (hne _ (by simp <;> omega))
    have rf0W24 := (World.frozen?_of_block (a := ⟨w.heap.size + 1, 0, none⟩) (hgrow.block (w.heap.size + 1) (by omega) (hne _ (by omega)))).trans rf0W23
    have rf1W24 := (World.frozen?_of_block (a := ⟨w.heap.size + 1, 1, none⟩) (hgrow.block (w.heap.size + 1) (by omega) (hne _ (by omega)))).trans rf1W23
    have rf2W24 := (World.frozen?_of_block (a := ⟨w.heap.size + 1, 2, none⟩) (hgrow.block (w.heap.size + 1) (by omega) (hne _ (by omega)))).trans rf2W23
    have rf3W24 := (World.frozen?_of_block (a := ⟨w.heap.size + 1, 3, none⟩) (hgrow.block (w.heap.size + 1) (by omega) (hne _ (by omega)))).trans rf3W23
    have rf4W24 := (World.frozen?_of_block (a := ⟨w.heap.size + 1, 4, none⟩) (hgrow.block (w.heap.size + 1) (by omega) (hne _ (by omega)))).trans rf4W23
    have zdW24 := hgrow.size
    have belW24 := belW23.grown hgrow belW23.size (fun g hg => by have := (HLeW23.out.lt g hg).1; omega)
    have HUW24 := Lib.hid (HUW23.out.kept hgrow (rows_apartT HUW23.out HLeW23.out (by decide)))
    have HTW24 := Lib.hid (HTW23.out.grownT HLeW23.out (by decide) hgrow)
    have HSoW24 := Lib.hid (HSoW23.out.kept hgrow (rows_apartT HSoW23.out HLeW23.out (by decide)))
    have HLoW24 := Lib.hid hown; clear hown hgrow hne
    refine hK.out _ _ ⟨b0W24, b1W24, b2W24, b3W24, b4W24⟩ (fun hHeld => ?_)
    clear hK K
    try simp only [Act.put, List.setIfInBounds_toArray, List.set_cons_zero, List.set_cons_succ]
    refine tk13 (v := ?_) (by kernel_rfl) (by kernel_rfl) (by kernel_rfl) (by first | exact fun _ _ _ h => h | exact fun _ _ _ h => absurd h.1 (by simp)) (Or.inl ⟨by rfl, ?_⟩) (by assumption) ?_
    rotate_left 1
    focus (intro wx hSw; (try dsimp only at hSw); go_simp; try (with_reducible rfl))
    try simp only [Act.put, List.setIfInBounds_toArray, List.set_cons_zero, List.set_cons_succ]
    refine rd14 (by kernel_rfl) (fun K hK => ?_)
    go_simp
    have q0 : (((((W24.setCell ⟨w.heap.size + 1, 0, none⟩ (.int .i64 p)).setCell ⟨w.heap.size + 1, 1, none⟩ (.slice a4 ts.length k4)).setCell ⟨w.heap.size + 1, 2, none⟩ (.slice a5 ss.length k5)).setCell ⟨w.heap.size + 1, 3, none⟩ (.slice a6 ls.length k6)).setCell ⟨w.heap.size + 1, 4, none⟩ (.string str)).cell? ⟨w.heap.size + 1, 0, none⟩ = some (.int .i64 p) := ((World.cell?_setCell_other _ _ _ _ (by simp)).trans ((World.cell?_setCell_other _ _ _ _ (by simp)).trans ((World.cell?_setCell_other _ _ _ _ (by simp)).trans ((World.cell?_setCell_other _ _ _ _ (by simp)).trans (World.cell?_setCell_same _ _ _ r0W24)))))
    have q1 : (((((W24.setCell ⟨w.heap.size + 1, 0, none⟩ (.int .i64 p)).setCell ⟨w.heap.size + 1, 1, none⟩ (.slice a4 ts.length k4)).setCell ⟨w.heap.size + 1, 2, none⟩ (.slice a5 ss.length k5)).setCell ⟨w.heap.size + 1, 3, none⟩ (.slice a6 ls.length k6)).setCell ⟨w.heap.size + 1, 4, none⟩ (.string str)).cell? ⟨w.heap.size + 1, 1, none⟩ = some (.slice a4 ts.length k4) := ((World.cell?_setCell_other _ _ _ _ (by simp)).trans ((World.cell?_setCell_other _ _ _ _ (by simp)).trans ((World.cell?_setCell_other _ _ _ _ (by simp)).trans (World.cell?_setCell_same _ _ _ ((World.cell?_setCell_other _ _ _ _ (by simp)).trans r1W24)))))
    have q2 : (((((W24.setCell ⟨w.heap.size + 1, 0, none⟩ (.int .i64 p)).setCell ⟨w.heap.size + 1, 1, none⟩ (.slice a4 ts.length k4)).setCell ⟨w.heap.size + 1, 2, none⟩ (.slice a5 ss.length k5)).setCell ⟨w.heap.size + 1, 3, none⟩ (.slice a6 ls.length k6)).setCell ⟨w.heap.size + 1, 4, none⟩ (.string str)).cell? ⟨w.heap.size + 1, 2, none⟩ = some (.slice a5 ss.length k5) := ((World.cell?_setCell_other _ _ _ _ (by simp)).trans ((World.cell?_setCell_other _ _ _ _ (by simp)).trans (World.cell?_setCell_same _ _ _ ((World.cell?_setCell_other _ _ _ _ (by simp)).trans ((World.cell?_setCell_other _ _ _ _ (by simp)).trans r2W24)))))
    have q3 : (((((W24.setCell ⟨w.heap.size + 1, 0, none⟩ (.int .i64 p)).setCell ⟨w.heap.size + 1, 1, none⟩ (.slice a4 ts.length k4)).setCell ⟨w.heap.size + 1, 2, none⟩ (.slice a5 ss.length k5)).setCell ⟨w.heap.size + 1, 3, none⟩ (.slice a6 ls.length k6)).setCell ⟨w.heap.size + 1, 4, none⟩ (.string str)).cell? ⟨w.heap.size + 1, 3, none⟩ = some (.slice a6 ls.length k6) := ((World.cell?_setCell_other _ _ _ _ (by simp)).trans (World.cell?_setCell_same _ _ _ ((World.cell?_setCell_other _ _ _ _ (by simp)).trans ((World.cell?_setCell_other _ _ _ _ (by simp)).trans ((World.cell?_setCell_other _ _ _ _ (by simp)).trans r3W24)))))
    have q4 : (((((W24.setCell ⟨w.heap.size + 1, 0, none⟩ (.int .i64 p)).setCell ⟨w.heap.size + 1, 1, none⟩ (.slice a4 ts.length k4)).setCell ⟨w.heap.size + 1, 2, none⟩ (.slice a5 ss.length k5)).setCell ⟨w.heap.size + 1, 3, none⟩ (.slice a6 ls.length k6)).setCell ⟨w.heap.size + 1, 4, none⟩ (.string str)).cell? ⟨w.heap.size + 1, 4, none⟩ = some (.string str) := (World.cell?_setCell_same _ _ _ ((World.cell?_setCell_other _ _ _ _ (by simp)).trans ((World.cell?_setCell_other _ _ _ _ (by simp)).trans ((World.cell?_setCell_other _ _ _ _ (by simp)).trans ((World.cell?_setCell_other _ _ _ _ (by simp)).trans r4W24)))))
    have y0 : (((((W24.setCell ⟨w.heap.size + 1, 0, none⟩ (.int .i64 p)).setCell ⟨w.heap.size + 1, 1, none⟩ (.slice a4 ts.length k4)).setCell ⟨w.heap.size + 1, 2, none⟩ (.slice a5 ss.length k5)).setCell ⟨w.heap.size + 1, 3, none⟩ (.slice a6 ls.length k6)).setCell ⟨w.heap.size + 1, 4, none⟩ (.string str)).cell? ⟨w.heap.size, 0, none⟩ = some (.int .i64 p) := ((World.cell?_setCell_far _ _ _ _ (by simp)).trans ((World.cell?_setCell_far _ _ _ _ (by simp)).trans ((World.cell?_setCell_far _ _ _ _ (by simp)).trans ((World.cell?_setCell_far _ _ _ _ (by simp)).trans ((World.cell?_setCell_far _ _ _ _ (by simp)).trans b0W24)))))
    have y1 : (((((W24.setCell ⟨w.heap.size + 1, 0, none⟩ (.int .i64 p)).setCell ⟨w.heap.size + 1, 1, none⟩ (.slice a4 ts.length k4)).setCell ⟨w.heap.size + 1, 2, none⟩ (.slice a5 ss.length k5)).setCell ⟨w.heap.size + 1, 3, none⟩ (.slice a6 ls.length k6)).setCell ⟨w.heap.size + 1, 4, none⟩ (.string str)).cell? ⟨w.heap.size, 1, none⟩ = some (.slice at_ ts.length kt) := ((World.cell?_setCell_far _ _ _ _ (by simp)).trans ((World.cell?_setCell_far _ _ _ _ (by simp)).trans ((World.cell?_setCell_far _ _ _ _ (by simp)).trans ((World.cell?_setCell_far _ _ _ _ (by simp)).trans ((World.cell?_setCell_far _ _ _ _ (by simp)).trans b1W24)))))
    have y2 : (((((W24.setCell ⟨w.heap.size + 1, 0, none⟩ (.int .i64 p)).setCell ⟨w.heap.size + 1, 1, none⟩ (.slice a4 ts.length k4)).setCell ⟨w.heap.size + 1, 2, none⟩ (.slice a5 ss.length k5)).setCell ⟨w.heap.size + 1, 3, none⟩ (.slice a6 ls.length k6)).setCell ⟨w.heap.size + 1, 4, none⟩ (.string str)).cell? ⟨w.heap.size, 2, none⟩ = some (.slice as_ ss.length ks) := ((World.cell?_setCell_far _ _ _ _ (by simp)).trans ((World.cell?_setCell_far _ _ _ _ (by simp)).trans ((World.cell?_setCell_far _ _ _ _ (by simp)).trans ((World.cell?_setCell_far _ _ _ _ (by simp)).trans ((World.cell?_setCell_far _ _ _ _ (by simp)).trans b2W24)))))
    have y3 : (((((W24.setCell ⟨w.heap.size + 1, 0, none⟩ (.int .i64 p)).setCell ⟨w.heap.size + 1, 1, none⟩ (.slice a4 ts.length k4)).setCell ⟨w.heap.size + 1, 2, none⟩ (.slice a5 ss.length k5)).setCell ⟨w.heap.size + 1, 3, none⟩ (.slice a6 ls.length k6)).setCell ⟨w.heap.size + 1, 4, none⟩ (.string str)).cell? ⟨w.heap.size, 3, none⟩ = some (.slice al_ ls.length kl) := ((World.cell?_setCell_far _ _ _ _ (by simp)).trans ((World.cell?_setCell_far _ _ _ _ (by simp)).trans ((World.cell?_setCell_far _ _ _ _ (by simp)).trans ((World.cell?_setCell_far _ _ _ _ (by simp)).trans ((World.cell?_setCell_far _ _ _ _ (by simp)).trans b3W24)))))
    have y4 : (((((W24.setCell ⟨w.heap.size + 1, 0, none⟩ (.int .i64 p)).setCell ⟨w.heap.size + 1, 1, none⟩ (.slice a4 ts.length k4)).setCell ⟨w.heap.size + 1, 2, none⟩ (.slice a5 ss.length k5)).setCell ⟨w.heap.size + 1, 3, none⟩ (.slice a6 ls.length k6)).setCell ⟨w.heap.size + 1, 4, none⟩ (.string str)).cell? ⟨w.heap.size, 4, none⟩ = some (.string str) := ((World.cell?_setCell_far _ _ _ _ (by simp)).trans ((World.cell?_setCell_far _ _ _ _ (by simp)).trans ((World.cell?_setCell_far _ _ _ _ (by simp)).trans ((World.cell?_setCell_far _ _ _ _ (by simp)).trans ((World.cell?_setCell_far _ _ _ _ (by simp)).trans b4W24)))))
    have belX : Below w.heap.size w (((((W24.setCell ⟨w.heap.size + 1, 0, none⟩ (.int .i64 p)).setCell ⟨w.heap.size + 1, 1, none⟩ (.slice a4 ts.length k4)).setCell ⟨w.heap.size + 1, 2, none⟩ (.slice a5 ss.length k5)).setCell ⟨w.heap.size + 1, 3, none⟩ (.slice a6 ls.length k6)).setCell ⟨w.heap.size + 1, 4, none⟩ (.string str)) := (((((belW24.setCell (by show w.heap.size ≤ w.heap.size + 1; omega) _).setCell (by show w.heap.size ≤ w.heap.size + 1; omega) _).setCell (by show w.heap.size ≤ w.heap.size + 1; omega) _).setCell (by show w.heap.size ≤ w.heap.size + 1; omega) _).setCell (by show w.heap.size ≤ w.heap.size + 1; omega) _)
    have HUX := Lib.hid (owns_set (owns_set (owns_set (owns_set (owns_set HUW24.out (p := ⟨w.heap.size + 1, 0, none⟩) (by simp) (.int .i64 p)) (p := ⟨w.heap.size + 1, 1, none⟩) (by simp) (.slice a4 ts.length k4)) (p := ⟨w.heap.size + 1, 2, none⟩) (by simp) (.slice a5 ss.length k5)) (p := ⟨w.heap.size + 1, 3, none⟩) (by simp) (.slice a6 ls.length k6)) (p := ⟨w.heap.size + 1, 4, none⟩) (by simp) (.string str))
    have HSX := Lib.hid (owns_set (owns_set (owns_set (owns_set (owns_set HSoW24.out (p := ⟨w.heap.size + 1, 0, none⟩) (by simp) (.int .i64 p)) (p := ⟨w.heap.size + 1, 1, none⟩) (by simp) (.slice a4 ts.length k4)) (p := ⟨w.heap.size + 1, 2, none⟩) (by simp) (.slice a5 ss.length k5)) (p := ⟨w.heap.size + 1, 3, none⟩) (by simp) (.slice a6 ls.length k6)) (p := ⟨w.heap.size + 1, 4, none⟩) (by simp) (.string str))
    have HLX := Lib.hid (owns_set (owns_set (owns_set (owns_set (owns_set HLoW24.out (p := ⟨w.heap.size + 1, 0, none⟩) (by simp) (.int .i64 p)) (p := ⟨w.heap.size + 1, 1, none⟩) (by simp) (.slice a4 ts.length k4)) (p := ⟨w.heap.size + 1, 2, none⟩) (by simp) (.slice a5 ss.length k5)) (p := ⟨w.heap.size + 1, 3, none⟩) (by simp) (.slice a6 ls.length k6)) (p := ⟨w.heap.size + 1, 4, none⟩) (by simp) (.string str))
    have HTX := Lib.hid (((((HTW24.out.set (p := ⟨w.heap.size + 1, 0, none⟩) (by simp) (.int .i64 p)).set (p := ⟨w.heap.size + 1, 1, none⟩) (by simp) (.slice a4 ts.length k4)).set (p := ⟨w.heap.size + 1, 2, none⟩) (by simp) (.slice a5 ss.length k5)).set (p := ⟨w.heap.size + 1, 3, none⟩) (by simp) (.slice a6 ls.length k6)).set (p := ⟨w.heap.size + 1, 4, none⟩) (by simp) (.string str))
    generalize ((((W24.setCell ⟨w.heap.size + 1, 0, none⟩ (.int .i64 p)).setCell ⟨w.heap.size + 1, 1, none⟩ (.slice a4 ts.length k4)).setCell ⟨w.heap.size + 1, 2, none⟩ (.slice a5 ss.length k5)).setCell ⟨w.heap.size + 1, 3, none⟩ (.slice a6 ls.length k6)).setCell ⟨w.heap.size + 1, 4, none⟩ (.string str) = WX at q0 q1 q2 q3 q4 y0 y1 y2 y3 y4 belX HUX HSX HLX HTX ⊢
    refine hK.out _ _ ⟨y0, y1, y2, y3, y4⟩ (fun hHeld => ?_)
    clear hK K
    try simp only [Act.put, List.setIfInBounds_toArray, List.set_cons_zero, List.set_cons_succ]
    refine wpAnyH_done (by kernel_rfl) ?_ _
    clear b0W24 b1W24 b2W24 b3W24 b4W24 r0W24 r1W24 r2W24 r3W24 r4W24 y0 y1 y2 y3 y4
    clear rf0W24 rf1W24 rf2W24 rf3W24 rf4W24
    go_wp2_with fail
    refine bodyPost_ret (v := .agg #[.int .i64 p, .slice a4 ts.length k4, .slice a5 ss.length k5, .slice a6 ls.length k6, .string str]) (by simp [results, Try.results58, go_sem, q0, q1, q2, q3, q4]) rfl ?_
    exact ⟨_, xs, _, _, rfl, Go.Joins.ownsRow_le HUX.out (by omega), HTX.out.low (by omega), Go.Joins.ownsRow_le HSX.out (by omega), Go.Joins.ownsRow_le HLX.out (by omega), belX⟩
  refine ar7 (fun K hK => ?_) AllReadyH.nil
  go_simp
  have hbb : Below W0.heap.size W0 (W0.alloc (.cells #[] 98)) := (Below.refl _ _).alloc (Nat.le_refl _) _
  have hown : (W0.alloc (.cells #[] 98)).ownsRow (w.heap.size + 2) 98 2 (.slice (some ⟨W0.heap.size, 0, none⟩) 0 0) 0 [] :=
    ⟨rfl, Or.inr ⟨W0.heap.size, 0, #[], rfl, by omega, heap_alloc_new W0 _, Nat.le_refl _, Nat.zero_le _, rfl, rfl⟩⟩
  generalize W0.alloc (.cells #[] 98) = W25 at hbb hown ⊢
  have b0W25 := cell_carry b0W0 (Carries.of 0 hbb)
  have b1W25 := cell_carry b1W0 (Carries.of 0 hbb)
  have b2W25 := cell_carry b2W0 (Carries.of 0 hbb)
  have b3W25 := cell_carry b3W0 (Carries.of 0 hbb)
  have b4W25 := cell_carry b4W0 (Carries.of 0 hbb)
  have r0W25 := cell_carry r0W0 (Carries.of 0 hbb)
  have r1W25 := cell_carry r1W0 (Carries.of 0 hbb)
  have r2W25 := cell_carry r2W0 (Carries.of 0 hbb)
  have r3W25 := cell_carry r3W0 (Carries.of 0 hbb)
  have r4W25 := cell_carry r4W0 (Carries.of 0 hbb)
  have rf0W25 := (hbb.frozen (p := ⟨w.heap.size + 1, 0, none⟩) (by simp; omega)).trans rf0W0
  have rf1W25 := (hbb.frozen (p := ⟨w.heap.size + 1, 1, none⟩) (by simp; omega)).trans rf1W0
  have rf2W25 := (hbb.frozen (p := ⟨w.heap.size + 1, 2, none⟩) (by simp; omega)).trans rf2W0
  have rf3W25 := (hbb.frozen (p := ⟨w.heap.size + 1, 3, none⟩) (by simp; omega)).trans rf3W0
  have rf4W25 := (hbb.frozen (p := ⟨w.heap.size + 1, 4, none⟩) (by simp; omega)).trans rf4W0
  have zdW25 := hbb.size
  have belW25 := belW0.trans (hbb.mono belW0.size)
  have HLeW25 := Lib.hid hown; clear hown hbb
  refine hK.out _ _ ⟨b0W25, b1W25, b2W25, b3W25, b4W25⟩ (fun hHeld => ?_)
  clear hK K
  try simp only [Act.put, List.setIfInBounds_toArray, List.set_cons_zero, List.set_cons_succ]
  refine wpAnyH_ready (rs := [2, 3]) (by kernel_rfl) (by simp) ?_
  refine ar2 (fun K hK => ?_) ?_
  · go_simp
    refine (l1OwnN_any _ ⟨p, ts⟩ W25 lo (HN.out.keep (Carries.of lo belW25)) HS.out).mono ?_
    rintro e W26 ⟨u, xs, rfl, hou, hot, hbb⟩
    obtain ⟨a4, k4, rfl⟩ := owns_form hou
    simp only at hou hot
    have b0W26 := cell_carry b0W25 (Carries.of 0 hbb)
    have b1W26 := cell_carry b1W25 (Carries.of 0 hbb)
    have b2W26 := cell_carry b2W25 (Carries.of 0 hbb)
    have b3W26 := cell_carry b3W25 (Carries.of 0 hbb)
    have b4W26 := cell_carry b4W25 (Carries.of 0 hbb)
    have r0W26 := cell_carry r0W25 (Carries.of 0 hbb)
    have r1W26 := cell_carry r1W25 (Carries.of 0 hbb)
    have r2W26 := cell_carry r2W25 (Carries.of 0 hbb)
    have r3W26 := cell_carry r3W25 (Carries.of 0 hbb)
    have r4W26 := cell_carry r4W25 (Carries.of 0 hbb)
    have rf0W26 := (hbb.frozen (p := ⟨w.heap.size + 1, 0, none⟩) (by simp; omega)).trans rf0W25
    have rf1W26 := (hbb.frozen (p := ⟨w.heap.size + 1, 1, none⟩) (by simp; omega)).trans rf1W25
    have rf2W26 := (hbb.frozen (p := ⟨w.heap.size + 1, 2, none⟩) (by simp; omega)).trans rf2W25
    have rf3W26 := (hbb.frozen (p := ⟨w.heap.size + 1, 3, none⟩) (by simp; omega)).trans rf3W25
    have rf4W26 := (hbb.frozen (p := ⟨w.heap.size + 1, 4, none⟩) (by simp; omega)).trans rf4W25
    have zdW26 := hbb.size
    have belW26 := belW25.trans (hbb.mono belW25.size)
    have HLeW26 := Lib.hid (owns_after HLeW25.out hbb)
    have HUW26 := Lib.hid (Go.Joins.ownsRow_le (base' := w.heap.size + 2) hou (by omega))
    have HTW26 := Lib.hid (hot.low (B' := w.heap.size + 2) (by omega))
    clear hou hot hbb
    refine hK.out _ _ ⟨b0W26, b1W26, b2W26, b3W26, b4W26⟩ (fun hHeld => ?_)
    clear hK K
    try simp only [Act.put, List.setIfInBounds_toArray, List.set_cons_zero, List.set_cons_succ]
    refine rd3 (by kernel_rfl) (fun K hK => ?_)
    go_simp
    have hbb : Below W26.heap.size W26 (W26.alloc (.cells #[] 86)) := (Below.refl _ _).alloc (Nat.le_refl _) _
    have hown : (W26.alloc (.cells #[] 86)).ownsRow (w.heap.size + 2) 86 2 (.slice (some ⟨W26.heap.size, 0, none⟩) 0 0) 0 [] :=
      ⟨rfl, Or.inr ⟨W26.heap.size, 0, #[], rfl, by omega, heap_alloc_new W26 _, Nat.le_refl _, Nat.zero_le _, rfl, rfl⟩⟩
    generalize W26.alloc (.cells #[] 86) = W27 at hbb hown ⊢
    have b0W27 := cell_carry b0W26 (Carries.of 0 hbb)
    have b1W27 := cell_carry b1W26 (Carries.of 0 hbb)
    have b2W27 := cell_carry b2W26 (Carries.of 0 hbb)
    have b3W27 := cell_carry b3W26 (Carries.of 0 hbb)
    have b4W27 := cell_carry b4W26 (Carries.of 0 hbb)
    have r0W27 := cell_carry r0W26 (Carries.of 0 hbb)
    have r1W27 := cell_carry r1W26 (Carries.of 0 hbb)
    have r2W27 := cell_carry r2W26 (Carries.of 0 hbb)
    have r3W27 := cell_carry r3W26 (Carries.of 0 hbb)
    have r4W27 := cell_carry r4W26 (Carries.of 0 hbb)
    have rf0W27 := (hbb.frozen (p := ⟨w.heap.size + 1, 0, none⟩) (by simp; omega)).trans rf0W26
    have rf1W27 := (hbb.frozen (p := ⟨w.heap.size + 1, 1, none⟩) (by simp; omega)).trans rf1W26
    have rf2W27 := (hbb.frozen (p := ⟨w.heap.size + 1, 2, none⟩) (by simp; omega)).trans rf2W26
    have rf3W27 := (hbb.frozen (p := ⟨w.heap.size + 1, 3, none⟩) (by simp; omega)).trans rf3W26
    have rf4W27 := (hbb.frozen (p := ⟨w.heap.size + 1, 4, none⟩) (by simp; omega)).trans rf4W26
    have zdW27 := hbb.size
    have belW27 := belW26.trans (hbb.mono belW26.size)
    have HLeW27 := Lib.hid (owns_after HLeW26.out hbb)
    have HUW27 := Lib.hid (owns_after HUW26.out hbb)
    have HTW27 := Lib.hid (HTW26.out.after hbb)
    have HSeW27 := Lib.hid hown; clear hown hbb
    refine hK.out _ _ ⟨b0W27, b1W27, b2W27, b3W27, b4W27⟩ (fun hHeld => ?_)
    clear hK K
    try simp only [Act.put, List.setIfInBounds_toArray, List.set_cons_zero, List.set_cons_succ]
    refine rd6 (by kernel_rfl) (fun K hK => ?_)
    rw [if_pos (by rfl)]
    refine wp_append_sigs (.tmp 6) (.tmp 8) rfl (w.heap.size + 2) lo _ 0 [] rfl HSeW27.out _ ss rfl (HG.out.keep (Carries.of lo belW27)) (by omega) (by omega) ?_
    intro v' W28 hown hgrow
    simp only [Nat.zero_add, List.nil_append] at hown
    obtain ⟨a5, k5, rfl⟩ := owns_form hown
    have hne : ∀ k, k < w.heap.size + 2 → some k ≠ _ := fun k hk e => absurd (HSeW27.out.lt _ e.symm).1 (by omega)
    have b0W28 := hgrow.cell b0W27 (hne _ (by simp <;> omega))
    have b1W28 := hgrow.cell b1W27 (hne _ (by simp <;> omega))
    have b2W28 := hgrow.cell b2W27 (hne _ (by simp <;> omega))
    have b3W28 := hgrow.cell b3W27 (hne _ (by simp <;> omega))
    have b4W28 := hgrow.cell b4W27 (hne _ (by simp <;> omega))
    have r0W28 := hgrow.cell r0W27 (hne _ (by simp <;> omega))
    have r1W28 := hgrow.cell r1W27 (hne _ (by simp <;> omega))
    have r2W28 := hgrow.cell r2W27 (hne _ (by simp <;> omega))
    have r3W28 := hgrow.cell r3W27 (hne _ (by simp <;> omega))
    have r4W28 := hgrow.cell r4W27 (hne _ (by simp <;> omega))
    have rf0W28 := (World.frozen?_of_block (a := ⟨w.heap.size + 1, 0, none⟩) (hgrow.block (w.heap.size + 1) (by omega) (hne _ (by omega)))).trans rf0W27
    have rf1W28 := (World.frozen?_of_block (a := ⟨w.heap.size + 1, 1, none⟩) (hgrow.block (w.heap.size + 1) (by omega) (hne _ (by omega)))).trans rf1W27
    have rf2W28 := (World.frozen?_of_block (a := ⟨w.heap.size + 1, 2, none⟩) (hgrow.block (w.heap.size + 1) (by omega) (hne _ (by omega)))).trans rf2W27
    have rf3W28 := (World.frozen?_of_block (a := ⟨w.heap.size + 1, 3, none⟩) (hgrow.block (w.heap.size + 1) (by omega) (hne _ (by omega)))).trans rf3W27
    have rf4W28 := (World.frozen?_of_block (a := ⟨w.heap.size + 1, 4, none⟩) (hgrow.block (w.heap.size + 1) (by omega) (hne _ (by omega)))).trans rf4W27
    have zdW28 := hgrow.size
    have belW28 := belW27.grown hgrow belW27.size (fun g hg => by have := (HSeW27.out.lt g hg).1; omega)
    have HLeW28 := Lib.hid (HLeW27.out.kept hgrow (rows_apartT HLeW27.out HSeW27.out (by decide)))
    have HUW28 := Lib.hid (HUW27.out.kept hgrow (rows_apartT HUW27.out HSeW27.out (by decide)))
    have HTW28 := Lib.hid (HTW27.out.grownT HSeW27.out (by decide) hgrow)
    have HSoW28 := Lib.hid hown; clear hown hgrow hne
    refine hK.out _ _ ⟨b0W28, b1W28, b2W28, b3W28, b4W28⟩ (fun hHeld => ?_)
    clear hK K
    try simp only [Act.put, List.setIfInBounds_toArray, List.set_cons_zero, List.set_cons_succ]
    refine rd10 (by kernel_rfl) (fun K hK => ?_)
    rw [if_pos (by rfl)]
    refine wp_append_labs (.tmp 10) (.tmp 12) rfl (w.heap.size + 2) lo _ 0 [] rfl HLeW28.out _ ls rfl (HL.out.keep (Carries.of lo belW28)) (by omega) (by omega) ?_
    intro v' W29 hown hgrow
    simp only [Nat.zero_add, List.nil_append] at hown
    obtain ⟨a6, k6, rfl⟩ := owns_form hown
    have hne : ∀ k, k < w.heap.size + 2 → some k ≠ _ := fun k hk e => absurd (HLeW28.out.lt _ e.symm).1 (by omega)
    have b0W29 := hgrow.cell b0W28 (hne _ (by simp <;> omega))
    have b1W29 := hgrow.cell b1W28 (hne _ (by simp <;> omega))
    have b2W29 := hgrow.cell b2W28 (hne _ (by simp <;> omega))
    have b3W29 := hgrow.cell b3W28 (hne _ (by simp <;> omega))
    have b4W29 := hgrow.cell b4W28 (hne _ (by simp <;> omega))
    have r0W29 := hgrow.cell r0W28 (hne _ (by simp <;> omega))
    have r1W29 := hgrow.cell r1W28 (hne _ (by simp <;> omega))
    have r2W29 := hgrow.cell r2W28 (hne _ (by simp <;> omega))
    have r3W29 := hgrow.cell r3W28 (hne _ (by simp <;> omega))
    have r4W29 := hgrow.cell r4W28 (hne _ (by simp <;> omega))
    have rf0W29 := (World.frozen?_of_block (a := ⟨w.heap.size + 1, 0, none⟩) (hgrow.block (w.heap.size + 1) (by omega) (hne _ (by omega)))).trans rf0W28
    have rf1W29 := (World.frozen?_of_block (a := ⟨w.heap.size + 1, 1, none⟩) (hgrow.block (w.heap.size + 1) (by omega) (hne _ (by omega)))).trans rf1W28
    have rf2W29 := (World.frozen?_of_block (a := ⟨w.heap.size + 1, 2, none⟩) (hgrow.block (w.heap.size + 1) (by omega) (hne _ (by omega)))).trans rf2W28
    have rf3W29 := (World.frozen?_of_block (a := ⟨w.heap.size + 1, 3, none⟩) (hgrow.block (w.heap.size + 1) (by omega) (hne _ (by omega)))).trans rf3W28
    have rf4W29 := (World.frozen?_of_block (a := ⟨w.heap.size + 1, 4, none⟩) (hgrow.block (w.heap.size + 1) (by omega) (hne _ (by omega)))).trans rf4W28
    have zdW29 := hgrow.size
    have belW29 := belW28.grown hgrow belW28.size (fun g hg => by have := (HLeW28.out.lt g hg).1; omega)
    have HUW29 := Lib.hid (HUW28.out.kept hgrow (rows_apartT HUW28.out HLeW28.out (by decide)))
    have HTW29 := Lib.hid (HTW28.out.grownT HLeW28.out (by decide) hgrow)
    have HSoW29 := Lib.hid (HSoW28.out.kept hgrow (rows_apartT HSoW28.out HLeW28.out (by decide)))
    have HLoW29 := Lib.hid hown; clear hown hgrow hne
    refine hK.out _ _ ⟨b0W29, b1W29, b2W29, b3W29, b4W29⟩ (fun hHeld => ?_)
    clear hK K
    try simp only [Act.put, List.setIfInBounds_toArray, List.set_cons_zero, List.set_cons_succ]
    refine tk13 (v := ?_) (by kernel_rfl) (by kernel_rfl) (by kernel_rfl) (by first | exact fun _ _ _ h => h | exact fun _ _ _ h => absurd h.1 (by simp)) (Or.inl ⟨by rfl, ?_⟩) (by assumption) ?_
    rotate_left 1
    focus (intro wx hSw; (try dsimp only at hSw); go_simp; try (with_reducible rfl))
    try simp only [Act.put, List.setIfInBounds_toArray, List.set_cons_zero, List.set_cons_succ]
    refine rd14 (by kernel_rfl) (fun K hK => ?_)
    go_simp
    have q0 : (((((W29.setCell ⟨w.heap.size + 1, 0, none⟩ (.int .i64 p)).setCell ⟨w.heap.size + 1, 1, none⟩ (.slice a4 ts.length k4)).setCell ⟨w.heap.size + 1, 2, none⟩ (.slice a5 ss.length k5)).setCell ⟨w.heap.size + 1, 3, none⟩ (.slice a6 ls.length k6)).setCell ⟨w.heap.size + 1, 4, none⟩ (.string str)).cell? ⟨w.heap.size + 1, 0, none⟩ = some (.int .i64 p) := ((World.cell?_setCell_other _ _ _ _ (by simp)).trans ((World.cell?_setCell_other _ _ _ _ (by simp)).trans ((World.cell?_setCell_other _ _ _ _ (by simp)).trans ((World.cell?_setCell_other _ _ _ _ (by simp)).trans (World.cell?_setCell_same _ _ _ r0W29)))))
    have q1 : (((((W29.setCell ⟨w.heap.size + 1, 0, none⟩ (.int .i64 p)).setCell ⟨w.heap.size + 1, 1, none⟩ (.slice a4 ts.length k4)).setCell ⟨w.heap.size + 1, 2, none⟩ (.slice a5 ss.length k5)).setCell ⟨w.heap.size + 1, 3, none⟩ (.slice a6 ls.length k6)).setCell ⟨w.heap.size + 1, 4, none⟩ (.string str)).cell? ⟨w.heap.size + 1, 1, none⟩ = some (.slice a4 ts.length k4) := ((World.cell?_setCell_other _ _ _ _ (by simp)).trans ((World.cell?_setCell_other _ _ _ _ (by simp)).trans ((World.cell?_setCell_other _ _ _ _ (by simp)).trans (World.cell?_setCell_same _ _ _ ((World.cell?_setCell_other _ _ _ _ (by simp)).trans r1W29)))))
    have q2 : (((((W29.setCell ⟨w.heap.size + 1, 0, none⟩ (.int .i64 p)).setCell ⟨w.heap.size + 1, 1, none⟩ (.slice a4 ts.length k4)).setCell ⟨w.heap.size + 1, 2, none⟩ (.slice a5 ss.length k5)).setCell ⟨w.heap.size + 1, 3, none⟩ (.slice a6 ls.length k6)).setCell ⟨w.heap.size + 1, 4, none⟩ (.string str)).cell? ⟨w.heap.size + 1, 2, none⟩ = some (.slice a5 ss.length k5) := ((World.cell?_setCell_other _ _ _ _ (by simp)).trans ((World.cell?_setCell_other _ _ _ _ (by simp)).trans (World.cell?_setCell_same _ _ _ ((World.cell?_setCell_other _ _ _ _ (by simp)).trans ((World.cell?_setCell_other _ _ _ _ (by simp)).trans r2W29)))))
    have q3 : (((((W29.setCell ⟨w.heap.size + 1, 0, none⟩ (.int .i64 p)).setCell ⟨w.heap.size + 1, 1, none⟩ (.slice a4 ts.length k4)).setCell ⟨w.heap.size + 1, 2, none⟩ (.slice a5 ss.length k5)).setCell ⟨w.heap.size + 1, 3, none⟩ (.slice a6 ls.length k6)).setCell ⟨w.heap.size + 1, 4, none⟩ (.string str)).cell? ⟨w.heap.size + 1, 3, none⟩ = some (.slice a6 ls.length k6) := ((World.cell?_setCell_other _ _ _ _ (by simp)).trans (World.cell?_setCell_same _ _ _ ((World.cell?_setCell_other _ _ _ _ (by simp)).trans ((World.cell?_setCell_other _ _ _ _ (by simp)).trans ((World.cell?_setCell_other _ _ _ _ (by simp)).trans r3W29)))))
    have q4 : (((((W29.setCell ⟨w.heap.size + 1, 0, none⟩ (.int .i64 p)).setCell ⟨w.heap.size + 1, 1, none⟩ (.slice a4 ts.length k4)).setCell ⟨w.heap.size + 1, 2, none⟩ (.slice a5 ss.length k5)).setCell ⟨w.heap.size + 1, 3, none⟩ (.slice a6 ls.length k6)).setCell ⟨w.heap.size + 1, 4, none⟩ (.string str)).cell? ⟨w.heap.size + 1, 4, none⟩ = some (.string str) := (World.cell?_setCell_same _ _ _ ((World.cell?_setCell_other _ _ _ _ (by simp)).trans ((World.cell?_setCell_other _ _ _ _ (by simp)).trans ((World.cell?_setCell_other _ _ _ _ (by simp)).trans ((World.cell?_setCell_other _ _ _ _ (by simp)).trans r4W29)))))
    have y0 : (((((W29.setCell ⟨w.heap.size + 1, 0, none⟩ (.int .i64 p)).setCell ⟨w.heap.size + 1, 1, none⟩ (.slice a4 ts.length k4)).setCell ⟨w.heap.size + 1, 2, none⟩ (.slice a5 ss.length k5)).setCell ⟨w.heap.size + 1, 3, none⟩ (.slice a6 ls.length k6)).setCell ⟨w.heap.size + 1, 4, none⟩ (.string str)).cell? ⟨w.heap.size, 0, none⟩ = some (.int .i64 p) := ((World.cell?_setCell_far _ _ _ _ (by simp)).trans ((World.cell?_setCell_far _ _ _ _ (by simp)).trans ((World.cell?_setCell_far _ _ _ _ (by simp)).trans ((World.cell?_setCell_far _ _ _ _ (by simp)).trans ((World.cell?_setCell_far _ _ _ _ (by simp)).trans b0W29)))))
    have y1 : (((((W29.setCell ⟨w.heap.size + 1, 0, none⟩ (.int .i64 p)).setCell ⟨w.heap.size + 1, 1, none⟩ (.slice a4 ts.length k4)).setCell ⟨w.heap.size + 1, 2, none⟩ (.slice a5 ss.length k5)).setCell ⟨w.heap.size + 1, 3, none⟩ (.slice a6 ls.length k6)).setCell ⟨w.heap.size + 1, 4, none⟩ (.string str)).cell? ⟨w.heap.size, 1, none⟩ = some (.slice at_ ts.length kt) := ((World.cell?_setCell_far _ _ _ _ (by simp)).trans ((World.cell?_setCell_far _ _ _ _ (by simp)).trans ((World.cell?_setCell_far _ _ _ _ (by simp)).trans ((World.cell?_setCell_far _ _ _ _ (by simp)).trans ((World.cell?_setCell_far _ _ _ _ (by simp)).trans b1W29)))))
    have y2 : (((((W29.setCell ⟨w.heap.size + 1, 0, none⟩ (.int .i64 p)).setCell ⟨w.heap.size + 1, 1, none⟩ (.slice a4 ts.length k4)).setCell ⟨w.heap.size + 1, 2, none⟩ (.slice a5 ss.length k5)).setCell ⟨w.heap.size + 1, 3, none⟩ (.slice a6 ls.length k6)).setCell ⟨w.heap.size + 1, 4, none⟩ (.string str)).cell? ⟨w.heap.size, 2, none⟩ = some (.slice as_ ss.length ks) := ((World.cell?_setCell_far _ _ _ _ (by simp)).trans ((World.cell?_setCell_far _ _ _ _ (by simp)).trans ((World.cell?_setCell_far _ _ _ _ (by simp)).trans ((World.cell?_setCell_far _ _ _ _ (by simp)).trans ((World.cell?_setCell_far _ _ _ _ (by simp)).trans b2W29)))))
    have y3 : (((((W29.setCell ⟨w.heap.size + 1, 0, none⟩ (.int .i64 p)).setCell ⟨w.heap.size + 1, 1, none⟩ (.slice a4 ts.length k4)).setCell ⟨w.heap.size + 1, 2, none⟩ (.slice a5 ss.length k5)).setCell ⟨w.heap.size + 1, 3, none⟩ (.slice a6 ls.length k6)).setCell ⟨w.heap.size + 1, 4, none⟩ (.string str)).cell? ⟨w.heap.size, 3, none⟩ = some (.slice al_ ls.length kl) := ((World.cell?_setCell_far _ _ _ _ (by simp)).trans ((World.cell?_setCell_far _ _ _ _ (by simp)).trans ((World.cell?_setCell_far _ _ _ _ (by simp)).trans ((World.cell?_setCell_far _ _ _ _ (by simp)).trans ((World.cell?_setCell_far _ _ _ _ (by simp)).trans b3W29)))))
    have y4 : (((((W29.setCell ⟨w.heap.size + 1, 0, none⟩ (.int .i64 p)).setCell ⟨w.heap.size + 1, 1, none⟩ (.slice a4 ts.length k4)).setCell ⟨w.heap.size + 1, 2, none⟩ (.slice a5 ss.length k5)).setCell ⟨w.heap.size + 1, 3, none⟩ (.slice a6 ls.length k6)).setCell ⟨w.heap.size + 1, 4, none⟩ (.string str)).cell? ⟨w.heap.size, 4, none⟩ = some (.string str) := ((World.cell?_setCell_far _ _ _ _ (by simp)).trans ((World.cell?_setCell_far _ _ _ _ (by simp)).trans ((World.cell?_setCell_far _ _ _ _ (by simp)).trans ((World.cell?_setCell_far _ _ _ _ (by simp)).trans ((World.cell?_setCell_far _ _ _ _ (by simp)).trans b4W29)))))
    have belX : Below w.heap.size w (((((W29.setCell ⟨w.heap.size + 1, 0, none⟩ (.int .i64 p)).setCell ⟨w.heap.size + 1, 1, none⟩ (.slice a4 ts.length k4)).setCell ⟨w.heap.size + 1, 2, none⟩ (.slice a5 ss.length k5)).setCell ⟨w.heap.size + 1, 3, none⟩ (.slice a6 ls.length k6)).setCell ⟨w.heap.size + 1, 4, none⟩ (.string str)) := (((((belW29.setCell (by show w.heap.size ≤ w.heap.size + 1; omega) _).setCell (by show w.heap.size ≤ w.heap.size + 1; omega) _).setCell (by show w.heap.size ≤ w.heap.size + 1; omega) _).setCell (by show w.heap.size ≤ w.heap.size + 1; omega) _).setCell (by show w.heap.size ≤ w.heap.size + 1; omega) _)
    have HUX := Lib.hid (owns_set (owns_set (owns_set (owns_set (owns_set HUW29.out (p := ⟨w.heap.size + 1, 0, none⟩) (by simp) (.int .i64 p)) (p := ⟨w.heap.size + 1, 1, none⟩) (by simp) (.slice a4 ts.length k4)) (p := ⟨w.heap.size + 1, 2, none⟩) (by simp) (.slice a5 ss.length k5)) (p := ⟨w.heap.size + 1, 3, none⟩) (by simp) (.slice a6 ls.length k6)) (p := ⟨w.heap.size + 1, 4, none⟩) (by simp) (.string str))
    have HSX := Lib.hid (owns_set (owns_set (owns_set (owns_set (owns_set HSoW29.out (p := ⟨w.heap.size + 1, 0, none⟩) (by simp) (.int .i64 p)) (p := ⟨w.heap.size + 1, 1, none⟩) (by simp) (.slice a4 ts.length k4)) (p := ⟨w.heap.size + 1, 2, none⟩) (by simp) (.slice a5 ss.length k5)) (p := ⟨w.heap.size + 1, 3, none⟩) (by simp) (.slice a6 ls.length k6)) (p := ⟨w.heap.size + 1, 4, none⟩) (by simp) (.string str))
    have HLX := Lib.hid (owns_set (owns_set (owns_set (owns_set (owns_set HLoW29.out (p := ⟨w.heap.size + 1, 0, none⟩) (by simp) (.int .i64 p)) (p := ⟨w.heap.size + 1, 1, none⟩) (by simp) (.slice a4 ts.length k4)) (p := ⟨w.heap.size + 1, 2, none⟩) (by simp) (.slice a5 ss.length k5)) (p := ⟨w.heap.size + 1, 3, none⟩) (by simp) (.slice a6 ls.length k6)) (p := ⟨w.heap.size + 1, 4, none⟩) (by simp) (.string str))
    have HTX := Lib.hid (((((HTW29.out.set (p := ⟨w.heap.size + 1, 0, none⟩) (by simp) (.int .i64 p)).set (p := ⟨w.heap.size + 1, 1, none⟩) (by simp) (.slice a4 ts.length k4)).set (p := ⟨w.heap.size + 1, 2, none⟩) (by simp) (.slice a5 ss.length k5)).set (p := ⟨w.heap.size + 1, 3, none⟩) (by simp) (.slice a6 ls.length k6)).set (p := ⟨w.heap.size + 1, 4, none⟩) (by simp) (.string str))
    generalize ((((W29.setCell ⟨w.heap.size + 1, 0, none⟩ (.int .i64 p)).setCell ⟨w.heap.size + 1, 1, none⟩ (.slice a4 ts.length k4)).setCell ⟨w.heap.size + 1, 2, none⟩ (.slice a5 ss.length k5)).setCell ⟨w.heap.size + 1, 3, none⟩ (.slice a6 ls.length k6)).setCell ⟨w.heap.size + 1, 4, none⟩ (.string str) = WX at q0 q1 q2 q3 q4 y0 y1 y2 y3 y4 belX HUX HSX HLX HTX ⊢
    refine hK.out _ _ ⟨y0, y1, y2, y3, y4⟩ (fun hHeld => ?_)
    clear hK K
    try simp only [Act.put, List.setIfInBounds_toArray, List.set_cons_zero, List.set_cons_succ]
    refine wpAnyH_done (by kernel_rfl) ?_ _
    clear b0W29 b1W29 b2W29 b3W29 b4W29 r0W29 r1W29 r2W29 r3W29 r4W29 y0 y1 y2 y3 y4
    clear rf0W29 rf1W29 rf2W29 rf3W29 rf4W29
    go_wp2_with fail
    refine bodyPost_ret (v := .agg #[.int .i64 p, .slice a4 ts.length k4, .slice a5 ss.length k5, .slice a6 ls.length k6, .string str]) (by simp [results, Try.results58, go_sem, q0, q1, q2, q3, q4]) rfl ?_
    exact ⟨_, xs, _, _, rfl, Go.Joins.ownsRow_le HUX.out (by omega), HTX.out.low (by omega), Go.Joins.ownsRow_le HSX.out (by omega), Go.Joins.ownsRow_le HLX.out (by omega), belX⟩
  refine ar3 (fun K hK => ?_) AllReadyH.nil
  go_simp
  have hbb : Below W25.heap.size W25 (W25.alloc (.cells #[] 86)) := (Below.refl _ _).alloc (Nat.le_refl _) _
  have hown : (W25.alloc (.cells #[] 86)).ownsRow (w.heap.size + 2) 86 2 (.slice (some ⟨W25.heap.size, 0, none⟩) 0 0) 0 [] :=
    ⟨rfl, Or.inr ⟨W25.heap.size, 0, #[], rfl, by omega, heap_alloc_new W25 _, Nat.le_refl _, Nat.zero_le _, rfl, rfl⟩⟩
  generalize W25.alloc (.cells #[] 86) = W30 at hbb hown ⊢
  have b0W30 := cell_carry b0W25 (Carries.of 0 hbb)
  have b1W30 := cell_carry b1W25 (Carries.of 0 hbb)
  have b2W30 := cell_carry b2W25 (Carries.of 0 hbb)
  have b3W30 := cell_carry b3W25 (Carries.of 0 hbb)
  have b4W30 := cell_carry b4W25 (Carries.of 0 hbb)
  have r0W30 := cell_carry r0W25 (Carries.of 0 hbb)
  have r1W30 := cell_carry r1W25 (Carries.of 0 hbb)
  have r2W30 := cell_carry r2W25 (Carries.of 0 hbb)
  have r3W30 := cell_carry r3W25 (Carries.of 0 hbb)
  have r4W30 := cell_carry r4W25 (Carries.of 0 hbb)
  have rf0W30 := (hbb.frozen (p := ⟨w.heap.size + 1, 0, none⟩) (by simp; omega)).trans rf0W25
  have rf1W30 := (hbb.frozen (p := ⟨w.heap.size + 1, 1, none⟩) (by simp; omega)).trans rf1W25
  have rf2W30 := (hbb.frozen (p := ⟨w.heap.size + 1, 2, none⟩) (by simp; omega)).trans rf2W25
  have rf3W30 := (hbb.frozen (p := ⟨w.heap.size + 1, 3, none⟩) (by simp; omega)).trans rf3W25
  have rf4W30 := (hbb.frozen (p := ⟨w.heap.size + 1, 4, none⟩) (by simp; omega)).trans rf4W25
  have zdW30 := hbb.size
  have belW30 := belW25.trans (hbb.mono belW25.size)
  have HLeW30 := Lib.hid (owns_after HLeW25.out hbb)
  have HSeW30 := Lib.hid hown; clear hown hbb
  refine hK.out _ _ ⟨b0W30, b1W30, b2W30, b3W30, b4W30⟩ (fun hHeld => ?_)
  clear hK K
  try simp only [Act.put, List.setIfInBounds_toArray, List.set_cons_zero, List.set_cons_succ]
  refine rd2 (by kernel_rfl) (fun K hK => ?_)
  go_simp
  refine (l1OwnN_any _ ⟨p, ts⟩ W30 lo (HN.out.keep (Carries.of lo belW30)) HS.out).mono ?_
  rintro e W31 ⟨u, xs, rfl, hou, hot, hbb⟩
  obtain ⟨a4, k4, rfl⟩ := owns_form hou
  simp only at hou hot
  have b0W31 := cell_carry b0W30 (Carries.of 0 hbb)
  have b1W31 := cell_carry b1W30 (Carries.of 0 hbb)
  have b2W31 := cell_carry b2W30 (Carries.of 0 hbb)
  have b3W31 := cell_carry b3W30 (Carries.of 0 hbb)
  have b4W31 := cell_carry b4W30 (Carries.of 0 hbb)
  have r0W31 := cell_carry r0W30 (Carries.of 0 hbb)
  have r1W31 := cell_carry r1W30 (Carries.of 0 hbb)
  have r2W31 := cell_carry r2W30 (Carries.of 0 hbb)
  have r3W31 := cell_carry r3W30 (Carries.of 0 hbb)
  have r4W31 := cell_carry r4W30 (Carries.of 0 hbb)
  have rf0W31 := (hbb.frozen (p := ⟨w.heap.size + 1, 0, none⟩) (by simp; omega)).trans rf0W30
  have rf1W31 := (hbb.frozen (p := ⟨w.heap.size + 1, 1, none⟩) (by simp; omega)).trans rf1W30
  have rf2W31 := (hbb.frozen (p := ⟨w.heap.size + 1, 2, none⟩) (by simp; omega)).trans rf2W30
  have rf3W31 := (hbb.frozen (p := ⟨w.heap.size + 1, 3, none⟩) (by simp; omega)).trans rf3W30
  have rf4W31 := (hbb.frozen (p := ⟨w.heap.size + 1, 4, none⟩) (by simp; omega)).trans rf4W30
  have zdW31 := hbb.size
  have belW31 := belW30.trans (hbb.mono belW30.size)
  have HLeW31 := Lib.hid (owns_after HLeW30.out hbb)
  have HSeW31 := Lib.hid (owns_after HSeW30.out hbb)
  have HUW31 := Lib.hid (Go.Joins.ownsRow_le (base' := w.heap.size + 2) hou (by omega))
  have HTW31 := Lib.hid (hot.low (B' := w.heap.size + 2) (by omega))
  clear hou hot hbb
  refine hK.out _ _ ⟨b0W31, b1W31, b2W31, b3W31, b4W31⟩ (fun hHeld => ?_)
  clear hK K
  try simp only [Act.put, List.setIfInBounds_toArray, List.set_cons_zero, List.set_cons_succ]
  refine rd6 (by kernel_rfl) (fun K hK => ?_)
  rw [if_pos (by rfl)]
  refine wp_append_sigs (.tmp 6) (.tmp 8) rfl (w.heap.size + 2) lo _ 0 [] rfl HSeW31.out _ ss rfl (HG.out.keep (Carries.of lo belW31)) (by omega) (by omega) ?_
  intro v' W32 hown hgrow
  simp only [Nat.zero_add, List.nil_append] at hown
  obtain ⟨a5, k5, rfl⟩ := owns_form hown
  have hne : ∀ k, k < w.heap.size + 2 → some k ≠ _ := fun k hk e => absurd (HSeW31.out.lt _ e.symm).1 (by omega)
  have b0W32 := hgrow.cell b0W31 (hne _ (by simp <;> omega))
  have b1W32 := hgrow.cell b1W31 (hne _ (by simp <;> omega))
  have b2W32 := hgrow.cell b2W31 (hne _ (by simp <;> omega))
  have b3W32 := hgrow.cell b3W31 (hne _ (by simp <;> omega))
  have b4W32 := hgrow.cell b4W31 (hne _ (by simp <;> omega))
  have r0W32 := hgrow.cell r0W31 (hne _ (by simp <;> omega))
  have r1W32 := hgrow.cell r1W31 (hne _ (by simp <;> omega))
  have r2W32 := hgrow.cell r2W31 (hne _ (by simp <;> omega))
  have r3W32 := hgrow.cell r3W31 (hne _ (by simp <;> omega))
  have r4W32 := hgrow.cell r4W31 (hne _ (by simp <;> omega))
  have rf0W32 := (World.frozen?_of_block (a := ⟨w.heap.size + 1, 0, none⟩) (hgrow.block (w.heap.size + 1) (by omega) (hne _ (by omega)))).trans rf0W31
  have rf1W32 := (World.frozen?_of_block (a := ⟨w.heap.size + 1, 1, none⟩) (hgrow.block (w.heap.size + 1) (by omega) (hne _ (by omega)))).trans rf1W31
  have rf2W32 := (World.frozen?_of_block (a := ⟨w.heap.size + 1, 2, none⟩) (hgrow.block (w.heap.size + 1) (by omega) (hne _ (by omega)))).trans rf2W31
  have rf3W32 := (World.frozen?_of_block (a := ⟨w.heap.size + 1, 3, none⟩) (hgrow.block (w.heap.size + 1) (by omega) (hne _ (by omega)))).trans rf3W31
  have rf4W32 := (World.frozen?_of_block (a := ⟨w.heap.size + 1, 4, none⟩) (hgrow.block (w.heap.size + 1) (by omega) (hne _ (by omega)))).trans rf4W31
  have zdW32 := hgrow.size
  have belW32 := belW31.grown hgrow belW31.size (fun g hg => by have := (HSeW31.out.lt g hg).1; omega)
  have HLeW32 := Lib.hid (HLeW31.out.kept hgrow (rows_apartT HLeW31.out HSeW31.out (by decide)))
  have HUW32 := Lib.hid (HUW31.out.kept hgrow (rows_apartT HUW31.out HSeW31.out (by decide)))
  have HTW32 := Lib.hid (HTW31.out.grownT HSeW31.out (by decide) hgrow)
  have HSoW32 := Lib.hid hown; clear hown hgrow hne
  refine hK.out _ _ ⟨b0W32, b1W32, b2W32, b3W32, b4W32⟩ (fun hHeld => ?_)
  clear hK K
  try simp only [Act.put, List.setIfInBounds_toArray, List.set_cons_zero, List.set_cons_succ]
  refine rd10 (by kernel_rfl) (fun K hK => ?_)
  rw [if_pos (by rfl)]
  refine wp_append_labs (.tmp 10) (.tmp 12) rfl (w.heap.size + 2) lo _ 0 [] rfl HLeW32.out _ ls rfl (HL.out.keep (Carries.of lo belW32)) (by omega) (by omega) ?_
  intro v' W33 hown hgrow
  simp only [Nat.zero_add, List.nil_append] at hown
  obtain ⟨a6, k6, rfl⟩ := owns_form hown
  have hne : ∀ k, k < w.heap.size + 2 → some k ≠ _ := fun k hk e => absurd (HLeW32.out.lt _ e.symm).1 (by omega)
  have b0W33 := hgrow.cell b0W32 (hne _ (by simp <;> omega))
  have b1W33 := hgrow.cell b1W32 (hne _ (by simp <;> omega))
  have b2W33 := hgrow.cell b2W32 (hne _ (by simp <;> omega))
  have b3W33 := hgrow.cell b3W32 (hne _ (by simp <;> omega))
  have b4W33 := hgrow.cell b4W32 (hne _ (by simp <;> omega))
  have r0W33 := hgrow.cell r0W32 (hne _ (by simp <;> omega))
  have r1W33 := hgrow.cell r1W32 (hne _ (by simp <;> omega))
  have r2W33 := hgrow.cell r2W32 (hne _ (by simp <;> omega))
  have r3W33 := hgrow.cell r3W32 (hne _ (by simp <;> omega))
  have r4W33 := hgrow.cell r4W32 (hne _ (by simp <;> omega))
  have rf0W33 := (World.frozen?_of_block (a := ⟨w.heap.size + 1, 0, none⟩) (hgrow.block (w.heap.size + 1) (by omega) (hne _ (by omega)))).trans rf0W32
  have rf1W33 := (World.frozen?_of_block (a := ⟨w.heap.size + 1, 1, none⟩) (hgrow.block (w.heap.size + 1) (by omega) (hne _ (by omega)))).trans rf1W32
  have rf2W33 := (World.frozen?_of_block (a := ⟨w.heap.size + 1, 2, none⟩) (hgrow.block (w.heap.size + 1) (by omega) (hne _ (by omega)))).trans rf2W32
  have rf3W33 := (World.frozen?_of_block (a := ⟨w.heap.size + 1, 3, none⟩) (hgrow.block (w.heap.size + 1) (by omega) (hne _ (by omega)))).trans rf3W32
  have rf4W33 := (World.frozen?_of_block (a := ⟨w.heap.size + 1, 4, none⟩) (hgrow.block (w.heap.size + 1) (by omega) (hne _ (by omega)))).trans rf4W32
  have zdW33 := hgrow.size
  have belW33 := belW32.grown hgrow belW32.size (fun g hg => by have := (HLeW32.out.lt g hg).1; omega)
  have HUW33 := Lib.hid (HUW32.out.kept hgrow (rows_apartT HUW32.out HLeW32.out (by decide)))
  have HTW33 := Lib.hid (HTW32.out.grownT HLeW32.out (by decide) hgrow)
  have HSoW33 := Lib.hid (HSoW32.out.kept hgrow (rows_apartT HSoW32.out HLeW32.out (by decide)))
  have HLoW33 := Lib.hid hown; clear hown hgrow hne
  refine hK.out _ _ ⟨b0W33, b1W33, b2W33, b3W33, b4W33⟩ (fun hHeld => ?_)
  clear hK K
  try simp only [Act.put, List.setIfInBounds_toArray, List.set_cons_zero, List.set_cons_succ]
  refine tk13 (v := ?_) (by kernel_rfl) (by kernel_rfl) (by kernel_rfl) (by first | exact fun _ _ _ h => h | exact fun _ _ _ h => absurd h.1 (by simp)) (Or.inl ⟨by rfl, ?_⟩) (by assumption) ?_
  rotate_left 1
  focus (intro wx hSw; (try dsimp only at hSw); go_simp; try (with_reducible rfl))
  try simp only [Act.put, List.setIfInBounds_toArray, List.set_cons_zero, List.set_cons_succ]
  refine rd14 (by kernel_rfl) (fun K hK => ?_)
  go_simp
  have q0 : (((((W33.setCell ⟨w.heap.size + 1, 0, none⟩ (.int .i64 p)).setCell ⟨w.heap.size + 1, 1, none⟩ (.slice a4 ts.length k4)).setCell ⟨w.heap.size + 1, 2, none⟩ (.slice a5 ss.length k5)).setCell ⟨w.heap.size + 1, 3, none⟩ (.slice a6 ls.length k6)).setCell ⟨w.heap.size + 1, 4, none⟩ (.string str)).cell? ⟨w.heap.size + 1, 0, none⟩ = some (.int .i64 p) := ((World.cell?_setCell_other _ _ _ _ (by simp)).trans ((World.cell?_setCell_other _ _ _ _ (by simp)).trans ((World.cell?_setCell_other _ _ _ _ (by simp)).trans ((World.cell?_setCell_other _ _ _ _ (by simp)).trans (World.cell?_setCell_same _ _ _ r0W33)))))
  have q1 : (((((W33.setCell ⟨w.heap.size + 1, 0, none⟩ (.int .i64 p)).setCell ⟨w.heap.size + 1, 1, none⟩ (.slice a4 ts.length k4)).setCell ⟨w.heap.size + 1, 2, none⟩ (.slice a5 ss.length k5)).setCell ⟨w.heap.size + 1, 3, none⟩ (.slice a6 ls.length k6)).setCell ⟨w.heap.size + 1, 4, none⟩ (.string str)).cell? ⟨w.heap.size + 1, 1, none⟩ = some (.slice a4 ts.length k4) := ((World.cell?_setCell_other _ _ _ _ (by simp)).trans ((World.cell?_setCell_other _ _ _ _ (by simp)).trans ((World.cell?_setCell_other _ _ _ _ (by simp)).trans (World.cell?_setCell_same _ _ _ ((World.cell?_setCell_other _ _ _ _ (by simp)).trans r1W33)))))
  have q2 : (((((W33.setCell ⟨w.heap.size + 1, 0, none⟩ (.int .i64 p)).setCell ⟨w.heap.size + 1, 1, none⟩ (.slice a4 ts.length k4)).setCell ⟨w.heap.size + 1, 2, none⟩ (.slice a5 ss.length k5)).setCell ⟨w.heap.size + 1, 3, none⟩ (.slice a6 ls.length k6)).setCell ⟨w.heap.size + 1, 4, none⟩ (.string str)).cell? ⟨w.heap.size + 1, 2, none⟩ = some (.slice a5 ss.length k5) := ((World.cell?_setCell_other _ _ _ _ (by simp)).trans ((World.cell?_setCell_other _ _ _ _ (by simp)).trans (World.cell?_setCell_same _ _ _ ((World.cell?_setCell_other _ _ _ _ (by simp)).trans ((World.cell?_setCell_other _ _ _ _ (by simp)).trans r2W33)))))
  have q3 : (((((W33.setCell ⟨w.heap.size + 1, 0, none⟩ (.int .i64 p)).setCell ⟨w.heap.size + 1, 1, none⟩ (.slice a4 ts.length k4)).setCell ⟨w.heap.size + 1, 2, none⟩ (.slice a5 ss.length k5)).setCell ⟨w.heap.size + 1, 3, none⟩ (.slice a6 ls.length k6)).setCell ⟨w.heap.size + 1, 4, none⟩ (.string str)).cell? ⟨w.heap.size + 1, 3, none⟩ = some (.slice a6 ls.length k6) := ((World.cell?_setCell_other _ _ _ _ (by simp)).trans (World.cell?_setCell_same _ _ _ ((World.cell?_setCell_other _ _ _ _ (by simp)).trans ((World.cell?_setCell_other _ _ _ _ (by simp)).trans ((World.cell?_setCell_other _ _ _ _ (by simp)).trans r3W33)))))
  have q4 : (((((W33.setCell ⟨w.heap.size + 1, 0, none⟩ (.int .i64 p)).setCell ⟨w.heap.size + 1, 1, none⟩ (.slice a4 ts.length k4)).setCell ⟨w.heap.size + 1, 2, none⟩ (.slice a5 ss.length k5)).setCell ⟨w.heap.size + 1, 3, none⟩ (.slice a6 ls.length k6)).setCell ⟨w.heap.size + 1, 4, none⟩ (.string str)).cell? ⟨w.heap.size + 1, 4, none⟩ = some (.string str) := (World.cell?_setCell_same _ _ _ ((World.cell?_setCell_other _ _ _ _ (by simp)).trans ((World.cell?_setCell_other _ _ _ _ (by simp)).trans ((World.cell?_setCell_other _ _ _ _ (by simp)).trans ((World.cell?_setCell_other _ _ _ _ (by simp)).trans r4W33)))))
  have y0 : (((((W33.setCell ⟨w.heap.size + 1, 0, none⟩ (.int .i64 p)).setCell ⟨w.heap.size + 1, 1, none⟩ (.slice a4 ts.length k4)).setCell ⟨w.heap.size + 1, 2, none⟩ (.slice a5 ss.length k5)).setCell ⟨w.heap.size + 1, 3, none⟩ (.slice a6 ls.length k6)).setCell ⟨w.heap.size + 1, 4, none⟩ (.string str)).cell? ⟨w.heap.size, 0, none⟩ = some (.int .i64 p) := ((World.cell?_setCell_far _ _ _ _ (by simp)).trans ((World.cell?_setCell_far _ _ _ _ (by simp)).trans ((World.cell?_setCell_far _ _ _ _ (by simp)).trans ((World.cell?_setCell_far _ _ _ _ (by simp)).trans ((World.cell?_setCell_far _ _ _ _ (by simp)).trans b0W33)))))
  have y1 : (((((W33.setCell ⟨w.heap.size + 1, 0, none⟩ (.int .i64 p)).setCell ⟨w.heap.size + 1, 1, none⟩ (.slice a4 ts.length k4)).setCell ⟨w.heap.size + 1, 2, none⟩ (.slice a5 ss.length k5)).setCell ⟨w.heap.size + 1, 3, none⟩ (.slice a6 ls.length k6)).setCell ⟨w.heap.size + 1, 4, none⟩ (.string str)).cell? ⟨w.heap.size, 1, none⟩ = some (.slice at_ ts.length kt) := ((World.cell?_setCell_far _ _ _ _ (by simp)).trans ((World.cell?_setCell_far _ _ _ _ (by simp)).trans ((World.cell?_setCell_far _ _ _ _ (by simp)).trans ((World.cell?_setCell_far _ _ _ _ (by simp)).trans ((World.cell?_setCell_far _ _ _ _ (by simp)).trans b1W33)))))
  have y2 : (((((W33.setCell ⟨w.heap.size + 1, 0, none⟩ (.int .i64 p)).setCell ⟨w.heap.size + 1, 1, none⟩ (.slice a4 ts.length k4)).setCell ⟨w.heap.size + 1, 2, none⟩ (.slice a5 ss.length k5)).setCell ⟨w.heap.size + 1, 3, none⟩ (.slice a6 ls.length k6)).setCell ⟨w.heap.size + 1, 4, none⟩ (.string str)).cell? ⟨w.heap.size, 2, none⟩ = some (.slice as_ ss.length ks) := ((World.cell?_setCell_far _ _ _ _ (by simp)).trans ((World.cell?_setCell_far _ _ _ _ (by simp)).trans ((World.cell?_setCell_far _ _ _ _ (by simp)).trans ((World.cell?_setCell_far _ _ _ _ (by simp)).trans ((World.cell?_setCell_far _ _ _ _ (by simp)).trans b2W33)))))
  have y3 : (((((W33.setCell ⟨w.heap.size + 1, 0, none⟩ (.int .i64 p)).setCell ⟨w.heap.size + 1, 1, none⟩ (.slice a4 ts.length k4)).setCell ⟨w.heap.size + 1, 2, none⟩ (.slice a5 ss.length k5)).setCell ⟨w.heap.size + 1, 3, none⟩ (.slice a6 ls.length k6)).setCell ⟨w.heap.size + 1, 4, none⟩ (.string str)).cell? ⟨w.heap.size, 3, none⟩ = some (.slice al_ ls.length kl) := ((World.cell?_setCell_far _ _ _ _ (by simp)).trans ((World.cell?_setCell_far _ _ _ _ (by simp)).trans ((World.cell?_setCell_far _ _ _ _ (by simp)).trans ((World.cell?_setCell_far _ _ _ _ (by simp)).trans ((World.cell?_setCell_far _ _ _ _ (by simp)).trans b3W33)))))
  have y4 : (((((W33.setCell ⟨w.heap.size + 1, 0, none⟩ (.int .i64 p)).setCell ⟨w.heap.size + 1, 1, none⟩ (.slice a4 ts.length k4)).setCell ⟨w.heap.size + 1, 2, none⟩ (.slice a5 ss.length k5)).setCell ⟨w.heap.size + 1, 3, none⟩ (.slice a6 ls.length k6)).setCell ⟨w.heap.size + 1, 4, none⟩ (.string str)).cell? ⟨w.heap.size, 4, none⟩ = some (.string str) := ((World.cell?_setCell_far _ _ _ _ (by simp)).trans ((World.cell?_setCell_far _ _ _ _ (by simp)).trans ((World.cell?_setCell_far _ _ _ _ (by simp)).trans ((World.cell?_setCell_far _ _ _ _ (by simp)).trans ((World.cell?_setCell_far _ _ _ _ (by simp)).trans b4W33)))))
  have belX : Below w.heap.size w (((((W33.setCell ⟨w.heap.size + 1, 0, none⟩ (.int .i64 p)).setCell ⟨w.heap.size + 1, 1, none⟩ (.slice a4 ts.length k4)).setCell ⟨w.heap.size + 1, 2, none⟩ (.slice a5 ss.length k5)).setCell ⟨w.heap.size + 1, 3, none⟩ (.slice a6 ls.length k6)).setCell ⟨w.heap.size + 1, 4, none⟩ (.string str)) := (((((belW33.setCell (by show w.heap.size ≤ w.heap.size + 1; omega) _).setCell (by show w.heap.size ≤ w.heap.size + 1; omega) _).setCell (by show w.heap.size ≤ w.heap.size + 1; omega) _).setCell (by show w.heap.size ≤ w.heap.size + 1; omega) _).setCell (by show w.heap.size ≤ w.heap.size + 1; omega) _)
  have HUX := Lib.hid (owns_set (owns_set (owns_set (owns_set (owns_set HUW33.out (p := ⟨w.heap.size + 1, 0, none⟩) (by simp) (.int .i64 p)) (p := ⟨w.heap.size + 1, 1, none⟩) (by simp) (.slice a4 ts.length k4)) (p := ⟨w.heap.size + 1, 2, none⟩) (by simp) (.slice a5 ss.length k5)) (p := ⟨w.heap.size + 1, 3, none⟩) (by simp) (.slice a6 ls.length k6)) (p := ⟨w.heap.size + 1, 4, none⟩) (by simp) (.string str))
  have HSX := Lib.hid (owns_set (owns_set (owns_set (owns_set (owns_set HSoW33.out (p := ⟨w.heap.size + 1, 0, none⟩) (by simp) (.int .i64 p)) (p := ⟨w.heap.size + 1, 1, none⟩) (by simp) (.slice a4 ts.length k4)) (p := ⟨w.heap.size + 1, 2, none⟩) (by simp) (.slice a5 ss.length k5)) (p := ⟨w.heap.size + 1, 3, none⟩) (by simp) (.slice a6 ls.length k6)) (p := ⟨w.heap.size + 1, 4, none⟩) (by simp) (.string str))
  have HLX := Lib.hid (owns_set (owns_set (owns_set (owns_set (owns_set HLoW33.out (p := ⟨w.heap.size + 1, 0, none⟩) (by simp) (.int .i64 p)) (p := ⟨w.heap.size + 1, 1, none⟩) (by simp) (.slice a4 ts.length k4)) (p := ⟨w.heap.size + 1, 2, none⟩) (by simp) (.slice a5 ss.length k5)) (p := ⟨w.heap.size + 1, 3, none⟩) (by simp) (.slice a6 ls.length k6)) (p := ⟨w.heap.size + 1, 4, none⟩) (by simp) (.string str))
  have HTX := Lib.hid (((((HTW33.out.set (p := ⟨w.heap.size + 1, 0, none⟩) (by simp) (.int .i64 p)).set (p := ⟨w.heap.size + 1, 1, none⟩) (by simp) (.slice a4 ts.length k4)).set (p := ⟨w.heap.size + 1, 2, none⟩) (by simp) (.slice a5 ss.length k5)).set (p := ⟨w.heap.size + 1, 3, none⟩) (by simp) (.slice a6 ls.length k6)).set (p := ⟨w.heap.size + 1, 4, none⟩) (by simp) (.string str))
  generalize ((((W33.setCell ⟨w.heap.size + 1, 0, none⟩ (.int .i64 p)).setCell ⟨w.heap.size + 1, 1, none⟩ (.slice a4 ts.length k4)).setCell ⟨w.heap.size + 1, 2, none⟩ (.slice a5 ss.length k5)).setCell ⟨w.heap.size + 1, 3, none⟩ (.slice a6 ls.length k6)).setCell ⟨w.heap.size + 1, 4, none⟩ (.string str) = WX at q0 q1 q2 q3 q4 y0 y1 y2 y3 y4 belX HUX HSX HLX HTX ⊢
  refine hK.out _ _ ⟨y0, y1, y2, y3, y4⟩ (fun hHeld => ?_)
  clear hK K
  try simp only [Act.put, List.setIfInBounds_toArray, List.set_cons_zero, List.set_cons_succ]
  refine wpAnyH_done (by kernel_rfl) ?_ _
  clear b0W33 b1W33 b2W33 b3W33 b4W33 r0W33 r1W33 r2W33 r3W33 r4W33 y0 y1 y2 y3 y4
  clear rf0W33 rf1W33 rf2W33 rf3W33 rf4W33
  go_wp2_with fail
  refine bodyPost_ret (v := .agg #[.int .i64 p, .slice a4 ts.length k4, .slice a5 ss.length k5, .slice a6 ls.length k6, .string str]) (by simp [results, Try.results58, go_sem, q0, q1, q2, q3, q4]) rfl ?_
  exact ⟨_, xs, _, _, rfl, Go.Joins.ownsRow_le HUX.out (by omega), HTX.out.low (by omega), Go.Joins.ownsRow_le HSX.out (by omega), Go.Joins.ownsRow_le HLX.out (by omega), belX⟩

end Go.Proofs.Ytkkfglolameogaa
