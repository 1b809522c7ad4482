/- A HISTORY as it lies in memory: its block of six cells, the rows behind them; what stands when one of its rows grows. -/
import Derived.Test.YtigkgfdnnfmmmaaGreatVTyat
namespace Go.Proofs.YtigkgfdnnfmmmaaGreat
open Go.RowKit

/-- the row of events: each event's conditions are a list of the call's own -/
def ERow (B : Nat) (w : World) (v : Value) (es : List Ev) : Prop :=
  ∃ xs, w.ownsRow B 46 2 v es.length xs ∧ ∀ i, i < es.length → ∃ u g, xs[i * 2]? = some (.int .i64 (evT es i)) ∧ xs[i * 2 + 1]? = some u ∧
    u = .slice (some ⟨g, 0, none⟩) (evP es i).length (evP es i).length ∧ (B ≤ g ∧ ∀ j g' n c, j < i → xs[j * 2 + 1]? = some (.slice (some ⟨g', 0, none⟩) n c) → g' ≠ g) ∧ w.rowIs g 3 (evP es i).length (fun j => .int .i64 ((evP es i).getD j 0))
theorem ERow.nil (B : Nat) (w : World) : ERow B w (.slice none 0 0) [] := ⟨[], World.ownsRow_nil _ _ _ _, fun i hi => absurd hi (Nat.not_lt_zero _)⟩
theorem ERow.form {B : Nat} {w : World} {v : Value} {ms : List Ev} (h : ERow B w v ms) : ∃ a c, v = .slice a ms.length c := by
  obtain ⟨xs, h, _⟩ := h
  rcases h.2 with ⟨rfl, hn⟩ | ⟨g, cap, cur, rfl, _⟩
  · exact ⟨none, 0, by rw [hn]⟩
  · exact ⟨_, _, rfl⟩
theorem rowIs_ty {w : World} {g : Nat} {t : TypeId} {n : Nat} {f : Nat → Value} (h : w.rowIs g t n f) : TyAt w g t := by
  obtain ⟨cur, hg, _⟩ := h
  exact ⟨cur, _, hg⟩
theorem TyAt.ne {w : World} {g g' : Nat} {t t' : TypeId} (h : TyAt w g t) (h' : TyAt w g' t') (hne : t ≠ t') : g ≠ g' := by
  rintro rfl
  obtain ⟨c, f, h⟩ := h
  obtain ⟨c', f', h'⟩ := h'
  rw [h] at h'
  simp at h'
  exact hne h'.2.1
theorem ERow.after {B : Nat} {w w' : World} {v : Value} {es : List Ev} (h : ERow B w v es) (hb : Below w.heap.size w w') : ERow B w' v es := by
  obtain ⟨xs, h1, h2⟩ := h
  refine ⟨xs, owns_after h1 hb, fun i hi => ?_⟩
  obtain ⟨u, g, a, b, c, d, e⟩ := h2 i hi
  exact ⟨u, g, a, b, c, d, e.of_block (hb.block _ e.lt)⟩
/-- the same row in a later world, its lists older than that -/
theorem ERow.at2 {B : Nat} {w w' : World} {v : Value} {es : List Ev} (h : ERow B w v es) (hb : Below w.heap.size w w') :
    ∃ xs, w'.ownsRow B 46 2 v es.length xs ∧ (∀ i, i < es.length → ∃ u g, xs[i * 2]? = some (.int .i64 (evT es i)) ∧ xs[i * 2 + 1]? = some u ∧ u = .slice (some ⟨g, 0, none⟩) (evP es i).length (evP es i).length ∧ (B ≤ g ∧ ∀ j g' n c, j < i → xs[j * 2 + 1]? = some (.slice (some ⟨g', 0, none⟩) n c) → g' ≠ g) ∧ w'.rowIs g 3 (evP es i).length (fun j => .int .i64 ((evP es i).getD j 0))) ∧
      ∀ j g n c, j < es.length → xs[j * 2 + 1]? = some (.slice (some ⟨g, 0, none⟩) n c) → g ≠ w.heap.size := by
  obtain ⟨xs, h1, h2⟩ := h
  refine ⟨xs, owns_after h1 hb, fun i hi => ?_, fun j g n c hj hx => ?_⟩
  · obtain ⟨u, g, a, b, c, d, e⟩ := h2 i hi
    exact ⟨u, g, a, b, c, d, e.of_block (hb.block _ e.lt)⟩
  · obtain ⟨u, g', a, b, c', d, e⟩ := h2 j hj
    rw [hx, c'] at b
    have hl := e.lt
    simp only [Option.some.injEq, Value.slice.injEq, Addr.mk.injEq] at b
    have := b.1.1
    omega
theorem ERow.grownT {B B' s n : Nat} {w w' : World} {t : TypeId} {v v' : Value} {xs : List Value} {es : List Ev} (h : ERow B w v es) (hx : w.ownsRow B' t s v' n xs) (h1 : 46 ≠ t) (h2 : 3 ≠ t) (hg : w.grownBy w' v'.ownBlock) : ERow B w' v es := by
  obtain ⟨ys, k1, k2⟩ := h
  refine ⟨ys, k1.kept hg (rows_apartT k1 hx h1), fun i hi => ?_⟩
  obtain ⟨u, g, a, b, c, d, e⟩ := k2 i hi
  exact ⟨u, g, a, b, c, d, e.of_block (hg.block _ e.lt (owns_ne hx (rowIs_ty e) (fun q => h2 q.symm)))⟩
theorem ERow.setT {B : Nat} {w : World} {t : TypeId} {v : Value} {es : List Ev} (h : ERow B w v es) {p : Addr} (hT : TyAt w p.block t) (h1 : 46 ≠ t) (h2 : 3 ≠ t) (u : Value) : ERow B (w.setCell p u) v es := by
  obtain ⟨ys, k1, k2⟩ := h
  refine ⟨ys, owns_setT k1 hT h1 u, fun i hi => ?_⟩
  obtain ⟨u, g, a, b, c, d, e⟩ := k2 i hi
  exact ⟨u, g, a, b, c, d, e.setOther ((rowIs_ty e).ne hT h2) _⟩

/-- the history in block H, from block B on -/
structure HisAt (B H : Nat) (w : World) (P : Int) (vt vc ve vp vu : Value) (cs : List Cnd) (es : List Ev) (ps us : List Nat) : Prop where
  c0 : w.cell? ⟨H, 0, none⟩ = some (.int .i64 P)
  c1 : w.cell? ⟨H, 1, none⟩ = some vt
  c2 : w.cell? ⟨H, 2, none⟩ = some vc
  c3 : w.cell? ⟨H, 3, none⟩ = some ve
  c4 : w.cell? ⟨H, 4, none⟩ = some vp
  c5 : w.cell? ⟨H, 5, none⟩ = some vu
  fr : ∀ i, w.frozen? ⟨H, i, none⟩ = false
  ty : TyAt w H 77
  bH : B ≤ H
  rc : CRow B w vc cs
  re : ERow B w ve es
  rp : URow B w vp ps
  ru : URow B w vu us
  ne : ∀ b, vp.ownBlock = some b → vu.ownBlock ≠ some b
theorem HisAt.after {B H : Nat} {w w' : World} {P : Int} {vt vc ve vp vu : Value} {cs : List Cnd} {es : List Ev} {ps us : List Nat} (h : HisAt B H w P vt vc ve vp vu cs es ps us) (hb : Below w.heap.size w w') : HisAt B H w' P vt vc ve vp vu cs es ps us := by
  have C := Carries.of 0 hb
  exact ⟨cell_carry h.c0 C, cell_carry h.c1 C, cell_carry h.c2 C, cell_carry h.c3 C, cell_carry h.c4 C, cell_carry h.c5 C, fun i => (hb.frozen (p := ⟨H, i, none⟩) h.ty.lt).trans (h.fr i), h.ty.keep hb, h.bH, owns_after h.rc hb, h.re.after hb, owns_after h.rp hb, owns_after h.ru hb, h.ne⟩
/-- the history's block, when a row of another type grows -/
theorem HisAt.mid {B H B' s n : Nat} {w w' : World} {P : Int} {vt vc ve vp vu : Value} {cs : List Cnd} {es : List Ev} {ps us : List Nat} (h : HisAt B H w P vt vc ve vp vu cs es ps us) {t : TypeId} {v : Value} {xs : List Value} (hx : w.ownsRow B' t s v n xs) (hne : t ≠ 77) (hg : w.grownBy w' v.ownBlock) :
    (w'.cell? ⟨H, 0, none⟩ = some (.int .i64 P) ∧ w'.cell? ⟨H, 1, none⟩ = some vt ∧ w'.cell? ⟨H, 2, none⟩ = some vc ∧ w'.cell? ⟨H, 3, none⟩ = some ve ∧ w'.cell? ⟨H, 4, none⟩ = some vp ∧ w'.cell? ⟨H, 5, none⟩ = some vu) ∧ (∀ i, w'.frozen? ⟨H, i, none⟩ = false) ∧ TyAt w' H 77 := by
  have hn := owns_ne hx h.ty hne
  exact ⟨⟨hg.cell h.c0 hn, hg.cell h.c1 hn, hg.cell h.c2 hn, hg.cell h.c3 hn, hg.cell h.c4 hn, hg.cell h.c5 hn⟩, fun i => (World.frozen?_of_block (a := ⟨H, i, none⟩) (hg.block H h.ty.lt hn)).trans (h.fr i), h.ty.grown hg hn⟩
theorem cell_set_far {w : World} {b i j : Nat} {v u : Value} (h : w.cell? ⟨b, i, none⟩ = some v) (hne : j ≠ i) : (w.setCell ⟨b, j, none⟩ u).cell? ⟨b, i, none⟩ = some v :=
  (World.cell?_setCell_other _ _ _ _ (by intro e; injection e with e1 e2; exact hne e2)).trans h

/-- one more condition -/
theorem HisAt.pushC {B H : Nat} {w w' : World} {P : Int} {vt vc ve vp vu v' : Value} {cs cs' : List Cnd} {es : List Ev} {ps us : List Nat} (h : HisAt B H w P vt vc ve vp vu cs es ps us) (hown : CRow B w' v' cs') (hg : w.grownBy w' vc.ownBlock) :
    HisAt B H (w'.setCell ⟨H, 2, none⟩ v') P vt v' ve vp vu cs' es ps us := by
  obtain ⟨⟨k0, k1, k2, k3, k4, k5⟩, kf, kT⟩ := h.mid h.rc (by decide) hg
  refine ⟨cell_set_far k0 (by decide), cell_set_far k1 (by decide), World.cell?_setCell_same _ _ _ k2, cell_set_far k3 (by decide), cell_set_far k4 (by decide), cell_set_far k5 (by decide), fun i => by rw [World.frozen?_setCell]; exact kf i, kT.set _ _, h.bH, ?_, ?_, ?_, ?_, h.ne⟩
  · exact owns_setT hown (p := ⟨H, 2, none⟩) kT (by decide) _
  · exact (h.re.grownT h.rc (by decide) (by decide) hg).setT (p := ⟨H, 2, none⟩) kT (by decide) (by decide) _
  · exact owns_setT (h.rp.kept hg (rows_apartT h.rp h.rc (by decide))) (p := ⟨H, 2, none⟩) kT (by decide) _
  · exact owns_setT (h.ru.kept hg (rows_apartT h.ru h.rc (by decide))) (p := ⟨H, 2, none⟩) kT (by decide) _
/-- one more set of users -/
theorem HisAt.pushU {B H g l cap : Nat} {w w' : World} {P : Int} {vt vc ve vp vu : Value} {cs : List Cnd} {es : List Ev} {ps us us' : List Nat} (h : HisAt B H w P vt vc ve vp vu cs es ps us) (hown : URow B w' (.slice (some ⟨g, 0, none⟩) l cap) us') (hg : w.grownBy w' vu.ownBlock) (hat : vu.ownBlock = some g ∨ g = w.heap.size) :
    HisAt B H (w'.setCell ⟨H, 5, none⟩ (.slice (some ⟨g, 0, none⟩) l cap)) P vt vc ve vp (.slice (some ⟨g, 0, none⟩) l cap) cs es ps us' := by
  obtain ⟨⟨k0, k1, k2, k3, k4, k5⟩, kf, kT⟩ := h.mid h.ru (by decide) hg
  have hne : vp.ownBlock = none ∨ vp.ownBlock ≠ vu.ownBlock := by
    cases e : vp.ownBlock with
    | none => exact Or.inl rfl
    | some b => exact Or.inr fun e2 => h.ne b e e2.symm
  refine ⟨cell_set_far k0 (by decide), cell_set_far k1 (by decide), cell_set_far k2 (by decide), cell_set_far k3 (by decide), cell_set_far k4 (by decide), World.cell?_setCell_same _ _ _ k5, fun i => by rw [World.frozen?_setCell]; exact kf i, kT.set _ _, h.bH, ?_, ?_, ?_, ?_, ?_⟩
  · exact owns_setT (h.rc.kept hg (rows_apartT h.rc h.ru (by decide))) (p := ⟨H, 5, none⟩) kT (by decide) _
  · exact (h.re.grownT h.ru (by decide) (by decide) hg).setT (p := ⟨H, 5, none⟩) kT (by decide) (by decide) _
  · exact owns_setT (h.rp.kept hg hne) (p := ⟨H, 5, none⟩) kT (by decide) _
  · exact owns_setT hown (p := ⟨H, 5, none⟩) kT (by decide) _
  · intro b hb e
    simp only [Value.ownBlock, Option.some.injEq] at e
    subst e
    rcases hat with hat | hat
    · exact h.ne _ hb hat
    · have := h.rp
      rcases this.2 with ⟨rfl, _⟩ | ⟨g', cap', cur, rfl, _, hg', _⟩
      · simp [Value.ownBlock] at hb
      · simp only [Value.ownBlock, Option.some.injEq] at hb
        have := (Array.getElem?_eq_some_iff.1 hg').1
        omega

theorem own_lt {w : World} {B : Nat} {e : TypeId} {sz : Nat} {v : Value} {n : Nat} {xs : List Value} {b : Nat} (h : w.ownsRow B e sz v n xs) (hv : v.ownBlock = some b) : b < w.heap.size := by
  rcases h.2 with ⟨rfl, _⟩ | ⟨g, cap, cur, rfl, _, hg, _⟩
  · simp [Value.ownBlock] at hv
  · simp only [Value.ownBlock, Option.some.injEq] at hv
    subst hv
    exact (Array.getElem?_eq_some_iff.1 hg).1
theorem ERow.lt {B : Nat} {w : World} {v : Value} {es : List Ev} (h : ERow B w v es) {b : Nat} (hv : v.ownBlock = some b) : b < w.heap.size := by
  obtain ⟨xs, h, _⟩ := h
  exact own_lt h hv
theorem ev_app_left {es : List Ev} {t : Int} {L : List Int} {i : Nat} (h : i < es.length) : evT (es ++ [(t, L)]) i = evT es i ∧ evP (es ++ [(t, L)]) i = evP es i := by
  simp only [evT, evP, List.getD, List.getElem?_append_left h, and_self]
theorem ev_app_last {es : List Ev} {t : Int} {L : List Int} : evT (es ++ [(t, L)]) es.length = t ∧ evP (es ++ [(t, L)]) es.length = L := by
  simp [evT, evP, List.getD]
/-- one more event: the row as it grows -/
theorem ERow.push {B q : Nat} {w w' : World} {v v' : Value} {xs : List Value} {es : List Ev} {t : Int} {L : List Int} (hx : w.ownsRow B 46 2 v es.length xs)
    (hc : ∀ i, i < es.length → ∃ u g, xs[i * 2]? = some (.int .i64 (evT es i)) ∧ xs[i * 2 + 1]? = some u ∧ u = .slice (some ⟨g, 0, none⟩) (evP es i).length (evP es i).length ∧ (B ≤ g ∧ ∀ j g' n c, j < i → xs[j * 2 + 1]? = some (.slice (some ⟨g', 0, none⟩) n c) → g' ≠ g) ∧ w.rowIs g 3 (evP es i).length (fun j => .int .i64 ((evP es i).getD j 0)))
    (hown : w'.ownsRow B 46 2 v' (es.length + 1) (xs ++ [.int .i64 t, .slice (some ⟨q, 0, none⟩) L.length L.length])) (hg : w.grownBy w' v.ownBlock) (hq : w.rowIs q 3 L.length (fun j => .int .i64 (L.getD j 0))) (hB : B ≤ q) (hfr : ∀ j g n c, j < es.length → xs[j * 2 + 1]? = some (.slice (some ⟨g, 0, none⟩) n c) → g ≠ q) :
    ERow B w' v' (es ++ [(t, L)]) := by
  have hl : xs.length = es.length * 2 := hx.1
  refine ⟨xs ++ [.int .i64 t, .slice (some ⟨q, 0, none⟩) L.length L.length], by rw [List.length_append]; exact hown, fun i hi => ?_⟩
  have keep : ∀ g n f, w.rowIs g 3 n f → w'.rowIs g 3 n f := fun g n f h => h.of_block (hg.block _ h.lt (owns_ne hx (rowIs_ty h) (by decide)))
  by_cases e : i < es.length
  · obtain ⟨a1, a2⟩ := ev_app_left (t := t) (L := L) e
    obtain ⟨u, g, k0, k1, ku, kB, kr⟩ := hc i e
    rw [a1, a2]
    exact ⟨u, g, by rw [List.getElem?_append_left (by omega)]; exact k0, by rw [List.getElem?_append_left (by omega)]; exact k1, ku, ⟨kB.1, fun j g' n c hj hx => kB.2 j g' n c hj (by rw [List.getElem?_append_left (by omega)] at hx; exact hx)⟩, keep _ _ _ kr⟩
  · have e2 : i = es.length := by simp at hi; omega
    subst e2
    obtain ⟨a1, a2⟩ := ev_app_last (es := es) (t := t) (L := L)
    rw [a1, a2]
    refine ⟨_, q, ?_, ?_, rfl, ⟨hB, fun j g' n c hj hx => hfr j g' n c hj (by rw [List.getElem?_append_left (by omega)] at hx; exact hx)⟩, keep _ _ _ hq⟩
    · rw [List.getElem?_append_right (by omega), hl]; simp
    · rw [List.getElem?_append_right (by omega), hl]; simp
/-- one more event -/
theorem HisAt.pushE {B H : Nat} {w w' : World} {P : Int} {vt vc ve vp vu v' : Value} {cs : List Cnd} {es es' : List Ev} {ps us : List Nat} {xs : List Value} {m : Nat} (h : HisAt B H w P vt vc ve vp vu cs es ps us) (hx : w.ownsRow B 46 2 ve m xs) (hown : ERow B w' v' es') (hg : w.grownBy w' ve.ownBlock) :
    HisAt B H (w'.setCell ⟨H, 3, none⟩ v') P vt vc v' vp vu cs es' ps us := by
  obtain ⟨⟨k0, k1, k2, k3, k4, k5⟩, kf, kT⟩ := h.mid hx (by decide) hg
  refine ⟨cell_set_far k0 (by decide), cell_set_far k1 (by decide), cell_set_far k2 (by decide), World.cell?_setCell_same _ _ _ k3, cell_set_far k4 (by decide), cell_set_far k5 (by decide), fun i => by rw [World.frozen?_setCell]; exact kf i, kT.set _ _, h.bH, ?_, ?_, ?_, ?_, h.ne⟩
  · exact owns_setT (h.rc.kept hg (rows_apartT h.rc hx (by decide))) (p := ⟨H, 3, none⟩) kT (by decide) _
  · exact hown.setT (p := ⟨H, 3, none⟩) kT (by decide) (by decide) _
  · exact owns_setT (h.rp.kept hg (rows_apartT h.rp hx (by decide))) (p := ⟨H, 3, none⟩) kT (by decide) _
  · exact owns_setT (h.ru.kept hg (rows_apartT h.ru hx (by decide))) (p := ⟨H, 3, none⟩) kT (by decide) _
/-- one more past -/
theorem HisAt.pushP {B H g l cap : Nat} {w w' : World} {P : Int} {vt vc ve vp vu : Value} {cs : List Cnd} {es : List Ev} {ps ps' us : List Nat} (h : HisAt B H w P vt vc ve vp vu cs es ps us) (hown : URow B w' (.slice (some ⟨g, 0, none⟩) l cap) ps') (hg : w.grownBy w' vp.ownBlock) (hat : vp.ownBlock = some g ∨ g = w.heap.size) :
    HisAt B H (w'.setCell ⟨H, 4, none⟩ (.slice (some ⟨g, 0, none⟩) l cap)) P vt vc ve (.slice (some ⟨g, 0, none⟩) l cap) vu cs es ps' us := by
  obtain ⟨⟨k0, k1, k2, k3, k4, k5⟩, kf, kT⟩ := h.mid h.rp (by decide) hg
  have hne : vu.ownBlock = none ∨ vu.ownBlock ≠ vp.ownBlock := by
    cases e : vu.ownBlock with
    | none => exact Or.inl rfl
    | some b => exact Or.inr fun e2 => h.ne b e2.symm e
  refine ⟨cell_set_far k0 (by decide), cell_set_far k1 (by decide), cell_set_far k2 (by decide), cell_set_far k3 (by decide), World.cell?_setCell_same _ _ _ k4, cell_set_far k5 (by decide), fun i => by rw [World.frozen?_setCell]; exact kf i, kT.set _ _, h.bH, ?_, ?_, ?_, ?_, ?_⟩
  · exact owns_setT (h.rc.kept hg (rows_apartT h.rc h.rp (by decide))) (p := ⟨H, 4, none⟩) kT (by decide) _
  · exact (h.re.grownT h.rp (by decide) (by decide) hg).setT (p := ⟨H, 4, none⟩) kT (by decide) (by decide) _
  · exact owns_setT hown (p := ⟨H, 4, none⟩) kT (by decide) _
  · exact owns_setT (h.ru.kept hg hne) (p := ⟨H, 4, none⟩) kT (by decide) _
  · intro b hb e
    simp only [Value.ownBlock, Option.some.injEq] at hb
    subst hb
    rcases hat with hat | hat
    · exact h.ne _ hat e
    · have := own_lt h.ru e
      omega
theorem us_set {w : World} {B g n cap c : Nat} {l : List Nat} (h : w.ownsRow B 109 1 (.slice (some ⟨g, 0, none⟩) n cap) l.length (usCells l)) (hc : c < l.length) (x : Nat) :
    (w.setCell ⟨g, c, none⟩ (.int .u64 (x : Int))).ownsRow B 109 1 (.slice (some ⟨g, 0, none⟩) n cap) (l.set c x).length (usCells (l.set c x)) := by
  refine ⟨by simp [usCells], ?_⟩
  rcases h.2 with ⟨hn, _⟩ | ⟨g', cap', cur, hv, hb, hg, hnc, hcm, hsz, htk⟩
  · cases hn
  · injection hv with e1 e2 e3
    injection e1 with e1
    injection e1 with e1
    subst e1; subst e3
    refine Or.inr ⟨g, cap, cur.setIfInBounds c (.int .u64 (x : Int)), by rw [e2]; simp, hb, ?_, by simpa using hnc, hcm, by simpa using hsz, ?_⟩
    · exact heap_setCell_same w g c cur _ _ hg
    · apply List.ext_getElem?
      intro j
      have h1 : (cur.toList.take (l.length * 1))[j]? = (usCells l)[j]? := by rw [htk]
      by_cases hj : j < l.length
      · rw [List.length_set, List.getElem?_take_of_lt (by omega)]
        rw [List.getElem?_take_of_lt (by omega)] at h1
        rw [Array.getElem?_toList] at h1 ⊢
        by_cases e : j = c
        · subst e
          have hjc : j < cur.size := by
            have : cur.size = cap * 1 := hsz
            omega
          simp [hjc, usCells, hj]
        · rw [Array.getElem?_setIfInBounds_ne (fun h => e h.symm), h1]
          simp [usCells, List.getElem?_set_ne (fun h => e h.symm)]
      · rw [List.length_set, List.getElem?_take_eq_none (by omega), List.getElem?_eq_none (by simp [usCells]; omega)]
/-- the users of one condition are written -/
theorem HisAt.setU {B H g n cap c : Nat} {w : World} {P : Int} {vt vc ve vp : Value} {cs : List Cnd} {es : List Ev} {ps us : List Nat} (h : HisAt B H w P vt vc ve vp (.slice (some ⟨g, 0, none⟩) n cap) cs es ps us) (hc : c < us.length) (x : Nat) :
    HisAt B H (w.setCell ⟨g, c, none⟩ (.int .u64 (x : Int))) P vt vc ve vp (.slice (some ⟨g, 0, none⟩) n cap) cs es ps (us.set c x) := by
  have hT : TyAt w g 109 := by
    rcases h.ru.2 with ⟨hn, _⟩ | ⟨g', cap', cur, hv, hb, hg, _⟩
    · cases hn
    · injection hv with e1 e2 e3
      injection e1 with e1
      injection e1 with e1
      subst e1
      exact ⟨cur, _, hg⟩
  have hHg : g ≠ H := hT.ne h.ty (by decide)
  have far : ∀ {i v}, w.cell? ⟨H, i, none⟩ = some v → (w.setCell ⟨g, c, none⟩ (.int .u64 (x : Int))).cell? ⟨H, i, none⟩ = some v := fun hv => (World.cell?_setCell_other _ _ _ _ (by intro e; injection e with e1; exact hHg e1)).trans hv
  refine ⟨far h.c0, far h.c1, far h.c2, far h.c3, far h.c4, far h.c5, fun i => by rw [World.frozen?_setCell]; exact h.fr i, h.ty.set _ _, h.bH, ?_, ?_, ?_, us_set h.ru hc x, h.ne⟩
  · exact owns_setT h.rc (p := ⟨g, c, none⟩) hT (by decide) _
  · exact h.re.setT (p := ⟨g, c, none⟩) hT (by decide) (by decide) _
  · refine h.rp.kept (grownBy_set w ⟨g, c, none⟩ _) ?_
    cases e : vp.ownBlock with
    | none => exact Or.inl rfl
    | some b => exact Or.inr fun e2 => h.ne b e (by simp only [Value.ownBlock]; rw [← e2])

end Go.Proofs.YtigkgfdnnfmmmaaGreat
