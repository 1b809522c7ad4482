/- CONTROL: a scope in which the run jumps back to two labels; each jump has a smaller number than the one before it. -/
import Derived.ScopeJumps
import Derived.WalkMore
import Derived.Test.YtigkgfdnnfmmmaaVInts
namespace Go.Proofs.Ytigkgfdnnfmmmaa
open Go.RowKit

def Exit.two (l0 l1 : Nat) (A B : Act → World → Prop) (Q : Exit → Act → World → Prop) : Exit → Act → World → Prop
  | .goto l, a, w => (l = l0 ∧ A a w) ∨ (l = l1 ∧ B a w)
  | e, a, w => Q e a w

theorem wp_scope_two {P : Program} {a : Act} {w : World} {Q : Exit → Act → World → Prop} {c r0 r1 : Code} (l0 l1 : Nat) (J0 J1 : Nat → Act → World → Prop) (h0 : findLabel c l0 = some r0) (h1 : findLabel c l1 = some r1)
    (first : c.wp P (Exit.two l0 l1 (fun a' w' => ∃ m, J0 m a' w') (fun a' w' => ∃ m, J1 m a' w') Q) a w)
    (pass0 : ∀ m a w, J0 m a w → r0.wp P (Exit.two l0 l1 (fun a' w' => ∃ m', m' < m ∧ J0 m' a' w') (fun a' w' => ∃ m', m' < m ∧ J1 m' a' w') Q) a w)
    (pass1 : ∀ m a w, J1 m a w → r1.wp P (Exit.two l0 l1 (fun a' w' => ∃ m', m' < m ∧ J0 m' a' w') (fun a' w' => ∃ m', m' < m ∧ J1 m' a' w') Q) a w) : (Code.scope c).wp P Q a w := by
  intro b k cs
  have hg0 : gotoIn l0 (.inScope c :: k) = some (.code r0 :: .inScope c :: k) := by simp [gotoIn, h0]
  have hg1 : gotoIn l1 (.inScope c :: k) = some (.code r1 :: .inScope c :: k) := by simp [gotoIn, h1]
  have key : ∀ n a w, (J0 n a w → ∃ e a' w', Q e a' w' ∧ Arrives P (lone (b.at a (.code r0 :: .inScope c :: k)) cs w) b k cs e a' w') ∧ (J1 n a w → ∃ e a' w', Q e a' w' ∧ Arrives P (lone (b.at a (.code r1 :: .inScope c :: k)) cs w) b k cs e a' w') := by
    intro n
    induction n using Nat.strongRecOn with
    | _ n ih =>
      intro a w
      have go : ∀ r, (∃ e a₁ w₁, Exit.two l0 l1 (fun a' w' => ∃ m', m' < n ∧ J0 m' a' w') (fun a' w' => ∃ m', m' < n ∧ J1 m' a' w') Q e a₁ w₁ ∧ Arrives P (lone (b.at a (.code r :: .inScope c :: k)) cs w) b (.inScope c :: k) cs e a₁ w₁) → ∃ e a' w', Q e a' w' ∧ Arrives P (lone (b.at a (.code r :: .inScope c :: k)) cs w) b k cs e a' w' := by
        rintro r ⟨e, a₁, w₁, hq, harr⟩
        cases e with
        | normal => exact ⟨.normal, a₁, w₁, hq, Steps.trans harr (.one step_inScope)⟩
        | exit id => exact ⟨.exit id, a₁, w₁, hq, fun k' hk => harr k' (by simp [exitTo, hk])⟩
        | goto l' =>
          rcases hq with ⟨rfl, m', hlt, hJ⟩ | ⟨rfl, m', hlt, hJ⟩
          · obtain ⟨e₂, a₂, w₂, hq₂, harr₂⟩ := (ih m' hlt a₁ w₁).1 hJ
            exact ⟨e₂, a₂, w₂, hq₂, .of_steps (harr _ hg0) harr₂⟩
          · obtain ⟨e₂, a₂, w₂, hq₂, harr₂⟩ := (ih m' hlt a₁ w₁).2 hJ
            exact ⟨e₂, a₂, w₂, hq₂, .of_steps (harr _ hg1) harr₂⟩
        | ret => exact ⟨_, a₁, w₁, hq, harr⟩
        | panic ch => exact ⟨_, a₁, w₁, hq, harr⟩
        | outgrown => exact ⟨_, a₁, w₁, hq, harr⟩
      exact ⟨fun hJ => go r0 (pass0 n a w hJ b (.inScope c :: k) cs), fun hJ => go r1 (pass1 n a w hJ b (.inScope c :: k) cs)⟩
  obtain ⟨e, a₁, w₁, hq, harr⟩ := first b (.inScope c :: k) cs
  cases e with
  | normal => exact ⟨.normal, a₁, w₁, hq, .head step_scope (Steps.trans harr (.one step_inScope))⟩
  | exit id => exact ⟨.exit id, a₁, w₁, hq, fun k' hk => .head step_scope (harr k' (by simp [exitTo, hk]))⟩
  | goto l' =>
    rcases hq with ⟨rfl, m', hJ⟩ | ⟨rfl, m', hJ⟩
    · obtain ⟨e₂, a₂, w₂, hq₂, harr₂⟩ := (key m' a₁ w₁).1 hJ
      exact ⟨e₂, a₂, w₂, hq₂, .of_steps (.head step_scope (harr _ hg0)) harr₂⟩
    · obtain ⟨e₂, a₂, w₂, hq₂, harr₂⟩ := (key m' a₁ w₁).2 hJ
      exact ⟨e₂, a₂, w₂, hq₂, .of_steps (.head step_scope (harr _ hg1)) harr₂⟩
  | ret => exact ⟨_, a₁, w₁, hq, .of_steps (.one step_scope) harr⟩
  | panic ch => exact ⟨_, a₁, w₁, hq, .of_steps (.one step_scope) harr⟩
  | outgrown => exact ⟨_, a₁, w₁, hq, .of_steps (.one step_scope) harr⟩

end Go.Proofs.Ytigkgfdnnfmmmaa
