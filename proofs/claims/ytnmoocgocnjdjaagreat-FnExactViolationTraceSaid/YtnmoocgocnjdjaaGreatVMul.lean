/- WALKS: bits.Mul64 and bits.Mul at 1 and a small number; copy into a part of a row of ints; slices.Repeat of one int. -/
import Derived.Test.YtnmoocgocnjdjaaGreatVSrt
import Derived.Test.YtnmoocgocnjdjaaGreatVSteps
import Derived.Laws.MathBits
import Derived.Laws.CopyRow
import Derived.Laws.CopyOwn
import Derived.IntWalk
import Derived.StillTailTactics
namespace Go.Proofs.YtnmoocgocnjdjaaGreat
open Go.RowKit

set_option maxRecDepth 100000 in
set_option maxHeartbeats 1000000 in
theorem Mul64_one (n : Nat) (w : World) (hn : n ≤ 1048576) :
    Calls Tryz.prog 245 #[.int .u64 1, .int .u64 (n : Int)] w (RetV w (.tuple #[.int .u64 0, .int .u64 (n : Int)])) := by
  have a1 : bits .and .u64 1 4294967295 = 1 := by rw [and_low32 1 (by omega) (by omega)]; rfl
  have a2 : bits .and .u64 (n : Int) 4294967295 = (n : Int) := by rw [and_low32 _ (by omega) (by omega)]; omega
  have a0 : bits .and .u64 0 4294967295 = 0 := by rw [and_low32 0 (by omega) (by omega)]; rfl
  have d2 : (n : Int) / 4294967296 = 0 := by omega
  have w2 : IntKind.u64.wrap (n : Int) = (n : Int) := IntWalk.u64_in _ ⟨by omega, by omega⟩
  have w0 : IntKind.u64.wrap 0 = 0 := rfl
  have z0 : (0 : Int) / 4294967296 = 0 := rfl
  have m1 : (1 : Int) * (n : Int) = (n : Int) := by omega
  go_enter Tryz.func245, Tryz.ntmps245
  go_wp2_with fail
  go_ret2
  exact ⟨rfl, by (repeat' (first | (with_reducible exact Below.refl _ _) | (with_reducible assumption) | (with_reducible refine Below.alloc ?_ ?_ _) | (with_reducible refine Below.drew ?_) | (with_reducible refine below_drewN ?_ _) | (with_reducible refine Below.setCell ?_ ?_ _) | go_size))⟩

set_option maxRecDepth 100000 in
set_option maxHeartbeats 1000000 in
theorem Mul_one (n : Nat) (w : World) (hn : n ≤ 1048576) :
    Calls Tryz.prog 237 #[.int .u64 1, .int .u64 (n : Int)] w (RetV w (.tuple #[.int .u64 0, .int .u64 (n : Int)])) := by
  go_enter Tryz.func237, Tryz.ntmps237
  go_wp2_with fail
  refine (Mul64_one n _ hn).mono ?_
  rintro e w1 ⟨rfl, hb⟩
  go_wp2_with fail
  go_ret2
  exact ⟨rfl, by first | exact hb | (repeat' (first | (with_reducible exact Below.refl _ _) | (with_reducible assumption) | (with_reducible refine Below.alloc ?_ ?_ _) | (with_reducible refine Below.drew ?_) | (with_reducible refine below_drewN ?_ _) | (with_reducible refine Below.setCell ?_ ?_ _) | go_size))⟩

theorem Tryz.sizeInt1 : (Tryz.prog.info? 3).map (·.size) = some 1 := by kernel_rfl

/-- copy of m cells into a row of ints, from place o on -/
theorem run_copy_part (w : World) (ty : TypeId) (b o N dLen dCap : Nat) (f : Nat → Value) (hrow : w.rowIs b 3 N f) (ad : Addr) (sLen sCap m : Nat) (hm : m = Nat.min sLen dLen) (z : Int)
    (hsrc : ∀ j, j < m → w.cell? (ad.add j) = some (.int .i64 z)) (hfit : o + m ≤ N) :
    ∃ w', (Builtin.copy_ #[29, 29] ty #[.slice (some ⟨b, o, none⟩) dLen dCap, .slice (some ad) sLen sCap]).run Tryz.prog w = .ok (goInt m) w' ∧ w'.rowIs b 3 N (fun j => if o ≤ j ∧ j < o + m then .int .i64 z else f j) ∧ ∀ B a, B ≤ b → Below B a w → Below B a w' := by
  obtain ⟨cur, hb, hsz, hf⟩ := hrow
  have hl : (List.replicate m (Value.int .i64 z)).length = m := List.length_replicate
  have hr := run_copy_row (P := Tryz.prog) w 29 29 ty 3 b o dLen dCap ad sLen sCap cur 3 (List.replicate m (Value.int .i64 z)) Tryz.underlying29 Tryz.sizeInt1 hb (by rw [hl]; exact hm)
    (fun j u hj => by
      have hjm : j < m := by have := (List.getElem?_eq_some_iff.1 hj).1; rw [hl] at this; exact this
      rw [List.getElem?_replicate, if_pos hjm] at hj
      rw [hsrc j hjm]; exact hj) (by rw [hl]; omega) (fun u hu => by rw [List.eq_of_mem_replicate hu]; rfl)
  rw [hl] at hr
  refine ⟨_, hr, ⟨_, setRow_heap _ _ _ _ _ _ hb, ?_, fun i hi => ?_⟩, fun B a hB h => below_setRow h hB _⟩
  · simp; omega
  · have hcur : cur.toList.length = N := by simpa using hsz
    rw [List.getElem?_toArray]
    dsimp only
    by_cases h1 : i < o
    · rw [List.getElem?_append_left (by simp; omega), List.getElem?_append_left (by simp; omega), List.getElem?_take_of_lt h1, if_neg (by omega)]
      simpa using hf i hi
    · by_cases h2 : i < o + m
      · rw [List.getElem?_append_left (by simp; omega), List.getElem?_append_right (by simp; omega), if_pos ⟨by omega, h2⟩, List.getElem?_replicate, if_pos (by rw [List.length_take, hcur]; omega)]
      · rw [List.getElem?_append_right (by rw [List.length_append, hl, List.length_take]; omega), if_neg (by omega), List.getElem?_drop]
        have : o + m + (i - (cur.toList.take o ++ List.replicate m (Value.int .i64 z)).length) = i := by rw [List.length_append, hl, List.length_take, hcur]; omega
        rw [this]
        simpa using hf i hi

theorem wp_copy_part {o : Oper} {a : Act} {w : World} {K : Act → World → Prop} {Q : Exit → Act → World → Prop} (d x : Operand)
    (ho : o.op = .call { callee := .builtin .copy, args := #[d, x], argTypes := #[29, 29] }) (b off N dLen dCap : Nat) (f : Nat → Value) (hd : a.eval d = .slice (some ⟨b, off, none⟩) dLen dCap) (hrow : w.rowIs b 3 N f)
    (ad : Addr) (sLen sCap m : Nat) (hx : a.eval x = .slice (some ad) sLen sCap) (hm : m = Nat.min sLen dLen) (z : Int) (hsrc : ∀ j, j < m → w.cell? (ad.add j) = some (.int .i64 z)) (hfit : off + m ≤ N)
    (h : ∀ w', w'.rowIs b 3 N (fun j => if off ≤ j ∧ j < off + m then .int .i64 z else f j) → (∀ B a, B ≤ b → Below B a w → Below B a w') → K (a.put o.dst (goInt m)) w') : o.wp Tryz.prog a w K Q := by
  obtain ⟨w', hr, h2, h3⟩ := run_copy_part w o.type b off N dLen dCap f hrow ad sLen sCap m hm z hsrc hfit
  unfold Oper.wp execOp
  simp only [ho, resolve, invoke, builtin, Sem.run_bind, Sem.run_pure, Result.andThen_ok, List.map_toArray, List.map_cons, List.map_nil, hd, hx, hr]
  exact h w' h2 h3
theorem wpList_copy_part {ops : Array Oper} {rest : List Oper} {o : Oper} {a : Act} {w : World} {Q : Exit → Act → World → Prop} (hgd : o.guard = none) (d x : Operand)
    (ho : o.op = .call { callee := .builtin .copy, args := #[d, x], argTypes := #[29, 29] }) (b off N dLen dCap : Nat) (f : Nat → Value) (hd : a.eval d = .slice (some ⟨b, off, none⟩) dLen dCap) (hrow : w.rowIs b 3 N f)
    (ad : Addr) (sLen sCap m : Nat) (hx : a.eval x = .slice (some ad) sLen sCap) (hm : m = Nat.min sLen dLen) (z : Int) (hsrc : ∀ j, j < m → w.cell? (ad.add j) = some (.int .i64 z)) (hfit : off + m ≤ N)
    (h : ∀ w', w'.rowIs b 3 N (fun j => if off ≤ j ∧ j < off + m then .int .i64 z else f j) → (∀ B a, B ≤ b → Below B a w → Below B a w') → wpList Tryz.prog ops Q rest (a.put o.dst (goInt m)) w') : wpList Tryz.prog ops Q (o :: rest) a w :=
  wpList_plain hgd fun _ hK => wp_copy_part d x ho b off N dLen dCap f hd hrow ad sLen sCap m hx hm z hsrc hfit fun w' h2 h3 => hK _ _ (h w' h2 h3)

/-- a call returns a row of its own, of n times z -/
def RetFull (w : World) (n : Nat) (z : Int) (e : Ending) (w' : World) : Prop := ∃ b, e = .returned (.slice (some ⟨b, 0, none⟩) n n) ∧ w.heap.size ≤ b ∧ b < w'.heap.size ∧ w'.rowIs b 3 n (fun _ => .int .i64 z) ∧ Below w.heap.size w w'
/-- the first k cells are z -/
def fullTo (z : Int) (k : Nat) : Nat → Value := fun j => if j < k then .int .i64 z else .int .i64 0

set_option maxRecDepth 100000 in
set_option maxHeartbeats 2000000 in
theorem Repeat_any (b off c : Nat) (z : Int) (n : Nat) (w : World) (hc : w.cell? ⟨b, off, none⟩ = some (.int .i64 z)) (hn0 : 1 ≤ n) (hn : n ≤ 1048576) :
    Calls Tryz.prog 218 #[.slice (some ⟨b, off, none⟩) 1 c, .int .i64 (n : Int)] w (RetFull w n z) := by
  have hmk := run_make_row' (P := Tryz.prog) 29 3 (.int .i64 0) 8 Tryz.underlying29 Tryz.infoInt rfl .i64 .i64 n (by omega) (by omega)
  have hrow := (World.rowIs_made w (.int .i64 0) n 3)
  go_enter Tryz.func218, Tryz.ntmps218
  go_wp2_with fail
  refine (Mul_one n _ hn).mono ?_
  rintro e w1 ⟨rfl, hb⟩
  have c1 := cell_carry hc (Carries.of 0 hb)
  have t1 : decide ((9223372036854775807 : Int) < (n : Int)) = false := decide_eq_false (by omega)
  have t2 : IntKind.i64.wrap (n : Int) = (n : Int) := IntWalk.i64_in _ ⟨by omega, by omega⟩
  have hrow1 := (World.rowIs_made w1 (.int .i64 0) n 3)
  have HB := Lib.hid hb
  clear hrow hb hc
  have HSRC : Hid (∀ j, j < 1 → (w1.alloc (.cells (madeCells #[.int .i64 0] n) 3)).cell? ((⟨b, off, none⟩ : Addr).add j) = some (.int .i64 z)) := fun j hj => by
    have e : j = 0 := by omega
    subst e
    rw [Addr.add_mid, Nat.add_zero]
    exact cell_carry c1 (by (repeat' (first | (with_reducible exact Carries.refl _ _) | (with_reducible assumption) | (with_reducible refine Carries.alloc ?_ _) | (with_reducible refine Carries.drew ?_) | (with_reducible refine Carries.drewN ?_ _) | (with_reducible refine Carries.set ?_ ?_ _) | go_size)))
  have HROW := Lib.hid hrow1
  clear hrow1
  go_wp2_with (with_reducible refine wpList_copy_part rfl (.tmp 31) (.tmp 32) rfl w1.heap.size 0 n n n _ rfl HROW.out ⟨b, off, none⟩ 1 c 1 rfl (by show 1 = min 1 n; omega) z HSRC.out (by omega) ?_; intro w2 hrow2 hbl2)
  have hrow3 : w2.rowIs w1.heap.size 3 n (fullTo z 1) := hrow2.congr (fun i _ => by
    unfold fullTo
    by_cases e : i < 1
    · rw [if_pos e, if_pos ⟨by omega, by omega⟩]
    · rw [if_neg e, if_neg (by omega)])
  have hw2 : Below w.heap.size w w2 := hbl2 _ _ HB.out.size (HB.out.alloc HB.out.size _)
  have zz : w.heap.size ≤ w1.heap.size := HB.out.size
  have HR3 := Lib.hid hrow3
  have HW2 := Lib.hid hw2
  clear hrow2 hrow3 hbl2 HROW HSRC c1 hw2
  go_wp2_with fail
  go_loopw [8] (fun kv wr => ∃ k : Nat, 1 ≤ k ∧ k ≤ n ∧ kv = .int .i64 k ∧ Hid (wr.rowIs w1.heap.size 3 n (fullTo z k)) ∧ Below w.heap.size w wr) (fun kv _ => n - (intOf kv).toNat)
  case atStart => exact ⟨1, Nat.le_refl _, hn0, rfl, HR3.out, HW2.out⟩
  case round =>
    obtain ⟨k, hk0, hk, rfl, hrow, hbr⟩ := hrel
    by_cases hlt : k < n
    · have zk : w1.heap.size < wr.heap.size := hrow.out.lt
      have HSRC : Hid (∀ j, j < Nat.min k (n - k) → wr.drew.cell? ((⟨w1.heap.size, 0, none⟩ : Addr).add j) = some (.int .i64 z)) := fun j hj => by
        have hjk : j < k := by have := Nat.min_le_left k (n - k); exact Nat.lt_of_lt_of_le hj this
        rw [Addr.add_mid, Nat.zero_add]
        have := hrow.out.cell (i := j) (by omega)
        unfold fullTo at this
        rw [if_pos hjk] at this
        exact this
      obtain ⟨m, hm⟩ : ∃ m, m = Nat.min k (n - k) := ⟨_, rfl⟩
      have hm1 : m ≤ k := by rw [hm]; exact Nat.min_le_left _ _
      have hm2 : m ≤ n - k := by rw [hm]; exact Nat.min_le_right _ _
      have hm3 : 1 ≤ m := by rw [hm]; show 1 ≤ min k (n - k); omega
      rw [← hm] at HSRC
      have HM := Lib.hid hm; clear hm
      have s1 : IntKind.i64.wrap ((k : Int) + (m : Int)) = (k : Int) + (m : Int) := IntWalk.i64_in _ ⟨by omega, by omega⟩
      have hnk : ¬ n = k := by omega
      go_wp2_with fail
      refine wp_region_held_drew (S := fun _ => True) (by kernel_rfl) trivial (fun hHeld => ?_)
      refine tk0 (v := ?_) (by kernel_rfl) (by kernel_rfl) (by kernel_rfl) (by first | exact fun _ _ _ h => h | exact fun _ _ _ h => absurd h.1 (by simp)) (Or.inl ⟨by rfl, ?_⟩) (by assumption) ?_
      rotate_left 1
      focus (intro wx hSw; (try dsimp only at hSw); go_simp; try (with_reducible rfl))
      try simp only [Act.put, List.setIfInBounds_toArray, List.set_cons_zero, List.set_cons_succ]
      refine tk1 (v := ?_) (by kernel_rfl) (by kernel_rfl) (by kernel_rfl) (by first | exact fun _ _ _ h => h | exact fun _ _ _ h => absurd h.1 (by simp)) (Or.inl ⟨by rfl, ?_⟩) (by assumption) ?_
      rotate_left 1
      focus (intro wx hSw; (try dsimp only at hSw); go_simp; try (with_reducible rfl))
      try simp only [Act.put, List.setIfInBounds_toArray, List.set_cons_zero, List.set_cons_succ]
      refine tk2 (v := ?_) (by kernel_rfl) (by kernel_rfl) (by kernel_rfl) (by first | exact fun _ _ _ h => h | exact fun _ _ _ h => absurd h.1 (by simp)) (Or.inl ⟨by rfl, ?_⟩) (by assumption) ?_
      rotate_left 1
      focus (intro wx hSw; (try dsimp only at hSw); go_simp; try (with_reducible rfl))
      try simp only [Act.put, List.setIfInBounds_toArray, List.set_cons_zero, List.set_cons_succ]
      refine tk3 (v := ?_) (by kernel_rfl) (by kernel_rfl) (by kernel_rfl) (by first | exact fun _ _ _ h => h | exact fun _ _ _ h => absurd h.1 (by simp)) (Or.inl ⟨by rfl, ?_⟩) (by assumption) ?_
      rotate_left 1
      focus (intro wx hSw; (try dsimp only at hSw); go_simp; try (with_reducible rfl))
      try simp only [Act.put, List.setIfInBounds_toArray, List.set_cons_zero, List.set_cons_succ]
      refine tk4 (v := ?_) (by kernel_rfl) (by kernel_rfl) (by kernel_rfl) (by first | exact fun _ _ _ h => h | exact fun _ _ _ h => absurd h.1 (by simp)) (Or.inl ⟨by rfl, ?_⟩) (by assumption) ?_
      rotate_left 1
      focus (intro wx hSw; (try dsimp only at hSw); go_simp; try (with_reducible rfl))
      try simp only [Act.put, List.setIfInBounds_toArray, List.set_cons_zero, List.set_cons_succ]
      refine tk5 (v := ?_) (by kernel_rfl) (by kernel_rfl) (by kernel_rfl) (by first | exact fun _ _ _ h => h | exact fun _ _ _ h => absurd h.1 (by simp)) (Or.inl ⟨by rfl, ?_⟩) (by assumption) ?_
      rotate_left 1
      focus (intro wx hSw; (try dsimp only at hSw); go_simp; try (with_reducible rfl))
      try simp only [Act.put, List.setIfInBounds_toArray, List.set_cons_zero, List.set_cons_succ]
      refine tk6 (v := ?_) (by kernel_rfl) (by kernel_rfl) (by kernel_rfl) (by first | exact fun _ _ _ h => h | exact fun _ _ _ h => absurd h.1 (by simp)) (Or.inl ⟨by rfl, ?_⟩) (by assumption) ?_
      rotate_left 1
      focus (intro wx hSw; (try dsimp only at hSw); go_simp; try (with_reducible rfl))
      try simp only [Act.put, List.setIfInBounds_toArray, List.set_cons_zero, List.set_cons_succ]
      refine rd7 (by kernel_rfl) (fun K hK => ?_)
      rw [if_pos (by rfl)]
      refine wp_copy_part (.tmp 41) (.tmp 44) rfl w1.heap.size k n (n - k) (n - k) _ (by rfl) (World.rowIs.drew hrow.out) ⟨w1.heap.size, 0, none⟩ k n m (by rfl) HM.out z HSRC.out (by omega) ?_
      intro w3 hrow3 hbl3
      refine hK.out _ _ trivial (fun hHeld => ?_)
      clear hK K
      try simp only [Act.put, List.setIfInBounds_toArray, List.set_cons_zero, List.set_cons_succ]
      refine tk8 (v := ?_) (by kernel_rfl) (by kernel_rfl) (by kernel_rfl) (by first | exact fun _ _ _ h => h | exact fun _ _ _ h => absurd h.1 (by simp)) (Or.inl ⟨by rfl, ?_⟩) (by assumption) ?_
      rotate_left 1
      focus (intro wx hSw; (try dsimp only at hSw); go_simp; try (with_reducible rfl))
      try simp only [Act.put, List.setIfInBounds_toArray, List.set_cons_zero, List.set_cons_succ]
      refine rd9 (by kernel_rfl) (fun K hK => ?_)
      go_simp
      refine hK.out _ _ trivial (fun hHeld => ?_)
      clear hK K
      try simp only [Act.put, List.setIfInBounds_toArray, List.set_cons_zero, List.set_cons_succ]
      refine wpAnyH_done (by kernel_rfl) ?_ _
      have hrow4 : w3.rowIs w1.heap.size 3 n (fullTo z (k + m)) := hrow3.congr (fun i _ => by
        unfold fullTo
        by_cases e : i < k
        · rw [if_neg (by omega), if_pos e, if_pos (by omega)]
        · by_cases e2 : i < k + m
          · rw [if_pos ⟨by omega, e2⟩, if_pos e2]
          · rw [if_neg (by omega), if_neg e, if_neg e2])
      have HR4 := Lib.hid hrow4
      have hw3 : Below w.heap.size w w3 := hbl3 _ _ (by omega) hbr.drew
      clear hrow3 hrow4 hbl3 HM HSRC
      go_wp2_with fail
      go_roundw
      case rel => exact ⟨k + m, by omega, by omega, by go_num, HR4.out, hw3⟩
      case measure => simp [intOf]; omega
    · have hkk : k = n := by omega
      subst hkk
      go_wp2_with fail
      go_ret
      exact ⟨_, rfl, zz, hrow.out.lt, hrow.out.congr (fun i hi => by unfold fullTo; rw [if_pos hi]), hbr⟩

end Go.Proofs.YtnmoocgocnjdjaaGreat
