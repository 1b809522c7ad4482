/- A HISTORY as it lies in memory: its block of six cells, the rows behind them; what stands when one of its rows grows. -/
import Derived.Test.YtnmoocgocnjdjaaVUfc
import Derived.Test.YtnmoocgocnjdjaaVTyat
namespace Go.Proofs.Ytnmoocgocnjdjaa
open Go.RowKit

/-- the row of events: each event's conditions are a list of the call's own -/
def ERow (B : Nat) (w : World) (v : Value) (es : List Ev) : Prop :=
  ∃ xs, w.ownsRow B 115 2 v es.length xs ∧ ∀ i, i < es.length → ∃ u g, xs[i * 2]? = some (.int .i64 (evT es i)) ∧ xs[i * 2 + 1]? = some u ∧
    u = .slice (some ⟨g, 0, none⟩) (evP es i).length (evP es i).length ∧ B ≤ g ∧ w.rowIs g 3 (evP es i).length (fun j => .int .i64 ((evP es i).getD j 0))
theorem ERow.nil (B : Nat) (w : World) : ERow B w (.slice none 0 0) [] := ⟨[], World.ownsRow_nil _ _ _ _, fun i hi => absurd hi (Nat.not_lt_zero _)⟩
theorem ERow.form {B : Nat} {w : World} {v : Value} {ms : List Ev} (h : ERow B w v ms) : ∃ a c, v = .slice a ms.length c := by
  obtain ⟨xs, h, _⟩ := h
  rcases h.2 with ⟨rfl, hn⟩ | ⟨g, cap, cur, rfl, _⟩
  · exact ⟨none, 0, by rw [hn]⟩
  · exact ⟨_, _, rfl⟩
theorem rowIs_ty {w : World} {g : Nat} {t : TypeId} {n : Nat} {f : Nat → Value} (h : w.rowIs g t n f) : TyAt w g t := by
  obtain ⟨cur, hg, _⟩ := h
  exact ⟨cur, _, hg⟩
theorem TyAt.ne {w : World} {g g' : Nat} {t t' : TypeId} (h : TyAt w g t) (h' : TyAt w g' t') (hne : t ≠ t') : g ≠ g' := by
  rintro rfl
  obtain ⟨c, f, h⟩ := h
  obtain ⟨c', f', h'⟩ := h'
  rw [h] at h'
  simp at h'
  exact hne h'.2.1
theorem ERow.after {B : Nat} {w w' : World} {v : Value} {es : List Ev} (h : ERow B w v es) (hb : Below w.heap.size w w') : ERow B w' v es := by
  obtain ⟨xs, h1, h2⟩ := h
  refine ⟨xs, owns_after h1 hb, fun i hi => ?_⟩
  obtain ⟨u, g, a, b, c, d, e⟩ := h2 i hi
  exact ⟨u, g, a, b, c, d, e.of_block (hb.block _ e.lt)⟩
theorem ERow.grownT {B B' s n : Nat} {w w' : World} {t : TypeId} {v v' : Value} {xs : List Value} {es : List Ev} (h : ERow B w v es) (hx : w.ownsRow B' t s v' n xs) (h1 : 115 ≠ t) (h2 : 3 ≠ t) (hg : w.grownBy w' v'.ownBlock) : ERow B w' v es := by
  obtain ⟨ys, k1, k2⟩ := h
  refine ⟨ys, k1.kept hg (rows_apartT k1 hx h1), fun i hi => ?_⟩
  obtain ⟨u, g, a, b, c, d, e⟩ := k2 i hi
  exact ⟨u, g, a, b, c, d, e.of_block (hg.block _ e.lt (owns_ne hx (rowIs_ty e) (fun q => h2 q.symm)))⟩
theorem ERow.setT {B : Nat} {w : World} {t : TypeId} {v : Value} {es : List Ev} (h : ERow B w v es) {p : Addr} (hT : TyAt w p.block t) (h1 : 115 ≠ t) (h2 : 3 ≠ t) (u : Value) : ERow B (w.setCell p u) v es := by
  obtain ⟨ys, k1, k2⟩ := h
  refine ⟨ys, owns_setT k1 hT h1 u, fun i hi => ?_⟩
  obtain ⟨u, g, a, b, c, d, e⟩ := k2 i hi
  exact ⟨u, g, a, b, c, d, e.setOther ((rowIs_ty e).ne hT h2) _⟩

/-- the history in block H, from block B on -/
structure HisAt (B H : Nat) (w : World) (P : Int) (vt vc ve vp vu : Value) (cs : List Cnd) (es : List Ev) (ps us : List Nat) : Prop where
  c0 : w.cell? ⟨H, 0, none⟩ = some (.int .i64 P)
  c1 : w.cell? ⟨H, 1, none⟩ = some vt
  c2 : w.cell? ⟨H, 2, none⟩ = some vc
  c3 : w.cell? ⟨H, 3, none⟩ = some ve
  c4 : w.cell? ⟨H, 4, none⟩ = some vp
  c5 : w.cell? ⟨H, 5, none⟩ = some vu
  fr : ∀ i, w.frozen? ⟨H, i, none⟩ = false
  ty : TyAt w H 85
  bH : B ≤ H
  rc : CRow B w vc cs
  re : ERow B w ve es
  rp : URow B w vp ps
  ru : URow B w vu us
  ne : ∀ b, vp.ownBlock = some b → vu.ownBlock ≠ some b
theorem HisAt.after {B H : Nat} {w w' : World} {P : Int} {vt vc ve vp vu : Value} {cs : List Cnd} {es : List Ev} {ps us : List Nat} (h : HisAt B H w P vt vc ve vp vu cs es ps us) (hb : Below w.heap.size w w') : HisAt B H w' P vt vc ve vp vu cs es ps us := by
  have C := Carries.of 0 hb
  exact ⟨cell_carry h.c0 C, cell_carry h.c1 C, cell_carry h.c2 C, cell_carry h.c3 C, cell_carry h.c4 C, cell_carry h.c5 C, fun i => (hb.frozen (p := ⟨H, i, none⟩) h.ty.lt).trans (h.fr i), h.ty.keep hb, h.bH, owns_after h.rc hb, h.re.after hb, owns_after h.rp hb, owns_after h.ru hb, h.ne⟩
/-- the history's block, when a row of another type grows -/
theorem HisAt.mid {B H B' s n : Nat} {w w' : World} {P : Int} {vt vc ve vp vu : Value} {cs : List Cnd} {es : List Ev} {ps us : List Nat} (h : HisAt B H w P vt vc ve vp vu cs es ps us) {t : TypeId} {v : Value} {xs : List Value} (hx : w.ownsRow B' t s v n xs) (hne : t ≠ 85) (hg : w.grownBy w' v.ownBlock) :
    (w'.cell? ⟨H, 0, none⟩ = some (.int .i64 P) ∧ w'.cell? ⟨H, 1, none⟩ = some vt ∧ w'.cell? ⟨H, 2, none⟩ = some vc ∧ w'.cell? ⟨H, 3, none⟩ = some ve ∧ w'.cell? ⟨H, 4, none⟩ = some vp ∧ w'.cell? ⟨H, 5, none⟩ = some vu) ∧ (∀ i, w'.frozen? ⟨H, i, none⟩ = false) ∧ TyAt w' H 85 := by
  have hn := owns_ne hx h.ty hne
  exact ⟨⟨hg.cell h.c0 hn, hg.cell h.c1 hn, hg.cell h.c2 hn, hg.cell h.c3 hn, hg.cell h.c4 hn, hg.cell h.c5 hn⟩, fun i => (World.frozen?_of_block (a := ⟨H, i, none⟩) (hg.block H h.ty.lt hn)).trans (h.fr i), h.ty.grown hg hn⟩
theorem cell_set_far {w : World} {b i j : Nat} {v u : Value} (h : w.cell? ⟨b, i, none⟩ = some v) (hne : j ≠ i) : (w.setCell ⟨b, j, none⟩ u).cell? ⟨b, i, none⟩ = some v :=
  (World.cell?_setCell_other _ _ _ _ (by intro e; injection e with e1 e2; exact hne e2)).trans h

/-- one more condition -/
theorem HisAt.pushC {B H : Nat} {w w' : World} {P : Int} {vt vc ve vp vu v' : Value} {cs cs' : List Cnd} {es : List Ev} {ps us : List Nat} (h : HisAt B H w P vt vc ve vp vu cs es ps us) (hown : CRow B w' v' cs') (hg : w.grownBy w' vc.ownBlock) :
    HisAt B H (w'.setCell ⟨H, 2, none⟩ v') P vt v' ve vp vu cs' es ps us := by
  obtain ⟨⟨k0, k1, k2, k3, k4, k5⟩, kf, kT⟩ := h.mid h.rc (by decide) hg
  refine ⟨cell_set_far k0 (by decide), cell_set_far k1 (by decide), World.cell?_setCell_same _ _ _ k2, cell_set_far k3 (by decide), cell_set_far k4 (by decide), cell_set_far k5 (by decide), fun i => by rw [World.frozen?_setCell]; exact kf i, kT.set _ _, h.bH, ?_, ?_, ?_, ?_, h.ne⟩
  · exact owns_setT hown (p := ⟨H, 2, none⟩) kT (by decide) _
  · exact (h.re.grownT h.rc (by decide) (by decide) hg).setT (p := ⟨H, 2, none⟩) kT (by decide) (by decide) _
  · exact owns_setT (h.rp.kept hg (rows_apartT h.rp h.rc (by decide))) (p := ⟨H, 2, none⟩) kT (by decide) _
  · exact owns_setT (h.ru.kept hg (rows_apartT h.ru h.rc (by decide))) (p := ⟨H, 2, none⟩) kT (by decide) _
/-- one more set of users -/
theorem HisAt.pushU {B H g l cap : Nat} {w w' : World} {P : Int} {vt vc ve vp vu : Value} {cs : List Cnd} {es : List Ev} {ps us us' : List Nat} (h : HisAt B H w P vt vc ve vp vu cs es ps us) (hown : URow B w' (.slice (some ⟨g, 0, none⟩) l cap) us') (hg : w.grownBy w' vu.ownBlock) (hat : vu.ownBlock = some g ∨ g = w.heap.size) :
    HisAt B H (w'.setCell ⟨H, 5, none⟩ (.slice (some ⟨g, 0, none⟩) l cap)) P vt vc ve vp (.slice (some ⟨g, 0, none⟩) l cap) cs es ps us' := by
  obtain ⟨⟨k0, k1, k2, k3, k4, k5⟩, kf, kT⟩ := h.mid h.ru (by decide) hg
  have hne : vp.ownBlock = none ∨ vp.ownBlock ≠ vu.ownBlock := by
    cases e : vp.ownBlock with
    | none => exact Or.inl rfl
    | some b => exact Or.inr fun e2 => h.ne b e e2.symm
  refine ⟨cell_set_far k0 (by decide), cell_set_far k1 (by decide), cell_set_far k2 (by decide), cell_set_far k3 (by decide), cell_set_far k4 (by decide), World.cell?_setCell_same _ _ _ k5, fun i => by rw [World.frozen?_setCell]; exact kf i, kT.set _ _, h.bH, ?_, ?_, ?_, ?_, ?_⟩
  · exact owns_setT (h.rc.kept hg (rows_apartT h.rc h.ru (by decide))) (p := ⟨H, 5, none⟩) kT (by decide) _
  · exact (h.re.grownT h.ru (by decide) (by decide) hg).setT (p := ⟨H, 5, none⟩) kT (by decide) (by decide) _
  · exact owns_setT (h.rp.kept hg hne) (p := ⟨H, 5, none⟩) kT (by decide) _
  · exact owns_setT hown (p := ⟨H, 5, none⟩) kT (by decide) _
  · intro b hb e
    simp only [Value.ownBlock, Option.some.injEq] at e
    subst e
    rcases hat with hat | hat
    · exact h.ne _ hb hat
    · have := h.rp
      rcases this.2 with ⟨rfl, _⟩ | ⟨g', cap', cur, rfl, _, hg', _⟩
      · simp [Value.ownBlock] at hb
      · simp only [Value.ownBlock, Option.some.injEq] at hb
        have := (Array.getElem?_eq_some_iff.1 hg').1
        omega

end Go.Proofs.Ytnmoocgocnjdjaa
