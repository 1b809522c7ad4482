/- WALK: l7Free of the model.
   APPEND of a transition onto a row of the call's own; rows of transitions whose lists are owned rows. -/
import Derived.Test.YtigkgfdnnfmmmaaGreatVHpw
import Derived.Test.YtigkgfdnnfmmmaaGreatVInts
import Derived.Test.YtigkgfdnnfmmmaaGreatVUvl
import Derived.Test.YtigkgfdnnfmmmaaGreatVNetc
namespace Go.Proofs.YtigkgfdnnfmmmaaGreat
open Go.RowKit

theorem Tryz.infoBool7 : (Tryz.prog.info? 4).map (fun i => (i.zero, i.size, i.bytes)) = some (some (.bool false), 1, 1) := by kernel_rfl
/-- what has been seen -/
def seenV (F : List Int) : Nat → Value := fun k => .bool (decide ((k : Int) ∈ F))
theorem seenV_up (F : List Int) (c : Nat) : (fun j => if j = c then Value.bool true else seenV F j) = seenV (F ++ [(c : Int)]) := by
  funext j
  unfold seenV
  by_cases h : j = c
  · subst h; simp
  · rw [if_neg h]
    have : ¬ (j : Int) = (c : Int) := by omega
    simp [this]
def flatTo (es : List Ev) (P : List Nat) (k : Nat) : List Int := (P.take k).flatMap (evP es)
theorem flatTo_succ {es : List Ev} {P : List Nat} {k : Nat} (hk : k < P.length) : flatTo es P (k + 1) = flatTo es P k ++ evP es (P.getD k 0) := by
  unfold flatTo
  rw [List.take_succ_eq_append_getElem hk, List.flatMap_append]
  simp [List.getD, hk]
theorem freeB_no {es : List Ev} {P : List Nat} {k j : Nat} (hk : k < P.length) (hj : j < (evP es (P.getD k 0)).length) (h : (evP es (P.getD k 0)).getD j 0 ∈ flatTo es P k ++ (evP es (P.getD k 0)).take j) : freeB es P = false := by
  unfold freeB
  apply decide_eq_false
  intro hn
  have e1 : P.flatMap (evP es) = flatTo es P (k + 1) ++ (P.drop (k + 1)).flatMap (evP es) := by
    unfold flatTo
    rw [← List.flatMap_append, List.take_append_drop]
  rw [e1, flatTo_succ hk] at hn
  generalize P.getD k 0 = e at hj h hn
  have hn1 := (List.nodup_append.1 hn).1
  have e2 : evP es e = (evP es e).take j ++ ((evP es e).getD j 0 :: (evP es e).drop (j + 1)) := by
    have : (evP es e).getD j 0 = (evP es e)[j] := by simp [List.getD, hj]
    rw [this, ← List.drop_eq_getElem_cons hj, List.take_append_drop]
  rw [e2] at hn1
  generalize (evP es e).getD j 0 = c at h hn1
  rw [← List.append_assoc] at hn1
  exact (List.nodup_append.1 hn1).2.2 c h c (List.mem_cons_self ..) rfl
theorem nodup_snoc {F : List Int} {c : Int} (h : F.Nodup) (hc : c ∉ F) : (F ++ [c]).Nodup := by
  refine List.nodup_append.2 ⟨h, by simp, fun a ha b hb e => ?_⟩
  simp at hb
  subst e; subst hb
  exact hc ha

set_option maxRecDepth 100000 in
set_option maxHeartbeats 2000000 in
theorem l7Free_any (v vl : Value) (cs : List Cnd) (es : List Ev) (P : List Nat) (w : World) (lo lo' : Nat) (hv : UnfAt lo w v ⟨cs, es⟩) (hvl : IntsAt lo' w vl (P.map fun (e : Nat) => (e : Int))) (hl : P.length ≤ 1048576) (hc : cs.length ≤ 1048576) (hev : ∀ k, k < es.length → (evP es k).length ≤ 1048576) (hin : ∀ k, k < P.length → P.getD k 0 < es.length) (hcin : ∀ e, e < es.length → ∀ q, q < (evP es e).length → 0 ≤ (evP es e).getD q 0 ∧ (evP es e).getD q 0 < (cs.length : Int)) :
    Calls Tryz.prog 78 #[v, vl] w (RetB w (freeB es P)) := by
  obtain ⟨G, hG⟩ : ∃ x, x = freeB es P := ⟨_, rfl⟩
  rw [← hG]
  have HG := Lib.hid hG; clear hG
  obtain ⟨a0, c0, a1, c1, rfl, hcn, hes⟩ := hv.form
  clear hv hcn
  obtain ⟨ac, kc, e0, hkc, hcz⟩ := hes
  injection e0 with e1 e2 e3
  subst e1; subst e3; clear e2
  simp only at hkc hcz ⊢
  have HC := Lib.hid hcz; clear hcz hkc
  have HIN := Lib.hid hin; clear hin
  have HEV := Lib.hid hev; clear hev
  have HCI := Lib.hid hcin; clear hcin
  obtain ⟨ao, cap, rfl, hxa, hxb⟩ := hvl
  rw [List.length_map] at hxb ⊢
  have HF := Lib.hid hxb; clear hxb hxa
  obtain ⟨nc, hnc⟩ : ∃ x, x = cs.length := ⟨_, rfl⟩
  rw [← hnc] at hc HCI ⊢
  obtain ⟨ne, hne⟩ : ∃ x, x = es.length := ⟨_, rfl⟩
  rw [← hne] at HC HIN HEV HCI ⊢
  clear hnc hne
  have hmk := run_make_row' (P := Tryz.prog) 122 4 (.bool false) 1 Tryz.underlying122 Tryz.infoBool7 rfl .i64 .i64 nc (by omega) (by omega)
  go_enter Tryz.func78, Tryz.ntmps78
  go_wp2_with fail
  have hrow := World.rowIs_made (w.alloc (.cells #[.slice a0 nc c0, .slice a1 ne c1] 38)) (.bool false) nc 4
  rw [World.size_alloc] at hrow
  have hrow2 := hrow.congr (g := seenV []) (fun i _ => by unfold seenV; simp)
  have HR := Lib.hid hrow2
  have hw0 : Below w.heap.size w ((w.alloc (.cells #[.slice a0 nc c0, .slice a1 ne c1] 38)).alloc (.cells (madeCells #[.bool false] nc) 4)) := by (repeat' (first | (with_reducible exact Below.refl _ _) | (with_reducible assumption) | (with_reducible refine Below.alloc ?_ ?_ _) | (with_reducible refine Below.drew ?_) | (with_reducible refine below_drewN ?_ _) | (with_reducible refine Below.setCell ?_ ?_ _) | go_size))
  have y1 : ((w.alloc (.cells #[.slice a0 nc c0, .slice a1 ne c1] 38)).alloc (.cells (madeCells #[.bool false] nc) 4)).cell? ⟨w.heap.size, 1, none⟩ = some (.slice a1 ne c1) := by simp
  clear hrow hrow2 hmk
  generalize (w.alloc (.cells #[.slice a0 nc c0, .slice a1 ne c1] 38)).alloc (.cells (madeCells #[.bool false] nc) 4) = W at HR hw0 y1 ⊢
  go_loopw [16] (fun i wr => ∃ k : Nat, k ≤ P.length ∧ i = .int .i64 k ∧ Hid (wr.rowIs (w.heap.size + 1) 4 nc (seenV (flatTo es P k)) ∧ (flatTo es P k).Nodup) ∧ Below w.heap.size w wr ∧ wr.cell? ⟨w.heap.size, 1, none⟩ = some (.slice a1 ne c1)) (fun i _ => P.length - (intOf i).toNat)
  case atStart => exact ⟨0, Nat.zero_le _, rfl, ⟨HR.out, List.nodup_nil⟩, hw0, y1⟩
  case round =>
    clear y1 HR hw0
    obtain ⟨k, hk, rfl, hrow, hw1, x1⟩ := hrel
    by_cases hlt : k < P.length
    · rcases HF.out with h0 | ⟨b, off, rfl, hlo, hcell⟩
      · exact absurd hlt (by have h1 : P.length = 0 := (by simpa using h0); omega)
      have q0 := hcell k hlt
      have d0 := Carries.of lo' hw1 _ _ hlo q0
      have eP : (P.map fun (e : Nat) => (e : Int)).getD k 0 = ((P.getD k 0 : Nat) : Int) := by simp [List.getD, hlt]
      rw [eP] at d0
      clear hcell q0 eP
      have hin := HIN.out k hlt
      have HFS := Lib.hid (flatTo_succ (es := es) hlt)
      have HNO : Hid (∀ j, j < (evP es (P.getD k 0)).length → (evP es (P.getD k 0)).getD j 0 ∈ flatTo es P k ++ (evP es (P.getD k 0)).take j → freeB es P = false) := fun j hj h => freeB_no hlt hj h
      generalize P.getD k 0 = e at d0 hin HFS HNO
      generalize flatTo es P k = F at hrow HFS HNO
      have i1 : (0 : Int) ≤ (e : Int) := by omega
      have i2 : (e : Int) < (ne : Int) := by omega
      rcases HC.out with h0 | ⟨b2, off2, rfl, hlo2, hcell2⟩
      · exact absurd hin (by rw [h0]; exact Nat.not_lt_zero _)
      obtain ⟨v1, q0, q1, hp⟩ := hcell2 e hin
      have g1 := Carries.of lo hw1 _ _ hlo2 q1
      have HP := Lib.hid hp
      have hle := HEV.out e hin
      have HCE := Lib.hid (HCI.out e hin)
      obtain ⟨ap, kp, rfl, _, hpz⟩ := id hp
      have HPZ := Lib.hid hpz
      clear hcell2 q0 q1 hp hpz
      try dsimp only at g1
      obtain ⟨m, hm⟩ : ∃ m, m = (evP es e).length := ⟨_, rfl⟩
      rw [← hm] at hle g1 HPZ HNO HCE
      have HM := Lib.hid hm; clear hm
      go_wp2_with fail
      clear g1 d0
      go_loopw [27] (fun i wi => ∃ j : Nat, j ≤ m ∧ i = .int .i64 j ∧ Hid (wi.rowIs (w.heap.size + 1) 4 nc (seenV (F ++ (evP es e).take j)) ∧ (F ++ (evP es e).take j).Nodup) ∧ Below w.heap.size w wi ∧ wi.cell? ⟨w.heap.size, 1, none⟩ = some (.slice (some ⟨b2, off2, none⟩) ne c1)) (fun i _ => m - (intOf i).toNat)
      case atStart => exact ⟨0, Nat.zero_le _, rfl, by unfold Hid; rw [List.take_zero, List.append_nil]; exact hrow.out, hw1, x1⟩
      case round =>
        clear hw1 x1 hrow
        obtain ⟨j, hj, rfl, hrow, hw1, x1⟩ := hrel
        by_cases hjl : j < m
        · rcases HPZ.out with h0 | ⟨b3, off3, rfl, hlo3, hcell3⟩
          · exact absurd hjl (by have h1 : (evP es e).length = 0 := (by simpa using h0); have := HM.out; omega)
          have q0 := hcell3 j hjl
          have d0 := Carries.of lo hw1 _ _ hlo3 q0
          clear hcell3 q0
          have hci := HCE.out j hjl
          have hno := Lib.hid (HNO.out j hjl)
          have HTK : Hid ((evP es e).take (j + 1) = (evP es e).take j ++ [(evP es e).getD j 0]) := by
            have hjl2 : j < (evP es e).length := by rw [← HM.out]; exact hjl
            unfold Hid
            rw [List.take_succ_eq_append_getElem hjl2]
            simp [List.getD, hjl2]
          generalize (evP es e).getD j 0 = c at d0 hci hno HTK
          obtain ⟨cn, rfl⟩ := Int.eq_ofNat_of_zero_le hci.1
          have i3 := hci.1
          have i4 := hci.2
          have i5 : cn < nc := by omega
          clear hci
          have ct := hrow.out.1.cell (i := cn) i5
          have ft := hrow.out.1.frozen cn
          by_cases hs : (cn : Int) ∈ F ++ (evP es e).take j
          · have hg := HG.out
            rw [hno.out hs] at hg
            subst hg
            have e1 : seenV (F ++ (evP es e).take j) cn = .bool true := by unfold seenV; rw [decide_eq_true hs]
            rw [e1] at ct
            clear e1 hs hno HTK hrow
            go_wp2_with fail
            go_ret
            exact ⟨rfl, hw1⟩
          · have e1 : seenV (F ++ (evP es e).take j) cn = .bool false := by unfold seenV; rw [decide_eq_false hs]
            rw [e1] at ct
            have HR2 : Hid ((wr.setCell ⟨w.heap.size + 1, cn, none⟩ (.bool true)).rowIs (w.heap.size + 1) 4 nc (seenV (F ++ (evP es e).take (j + 1))) ∧ (F ++ (evP es e).take (j + 1)).Nodup) := by
              unfold Hid
              rw [HTK.out, ← List.append_assoc, ← seenV_up]
              exact ⟨hrow.out.1.set cn (.bool true), nodup_snoc hrow.out.2 hs⟩
            have x1' : (wr.setCell ⟨w.heap.size + 1, cn, none⟩ (.bool true)).cell? ⟨w.heap.size, 1, none⟩ = some (.slice (some ⟨b2, off2, none⟩) ne c1) := (World.cell?_setCell_other _ _ _ _ (fun h => by injection h; omega)).trans x1
            have hb2 : Below w.heap.size w (wr.setCell ⟨w.heap.size + 1, cn, none⟩ (.bool true)) := hw1.setCell (p := ⟨w.heap.size + 1, cn, none⟩) (by show w.heap.size ≤ w.heap.size + 1; omega) _
            have HX := Lib.hid (And.intro x1' hb2); clear x1' hb2
            clear e1 hs hno HTK hrow
            go_wp2_with fail
            go_roundw
            case rel => exact ⟨j + 1, by omega, by go_num, HR2, HX.out.2, HX.out.1⟩
            case measure => simp [intOf]; omega
        · have hjj : j = m := by omega
          subst hjj
          have HR2 : Hid (wr.rowIs (w.heap.size + 1) 4 nc (seenV (flatTo es P (k + 1))) ∧ (flatTo es P (k + 1)).Nodup) := by
            have h := hrow.out
            rw [List.take_of_length_le (by rw [HM.out]; exact Nat.le_refl _), ← HFS.out] at h
            exact h
          clear hrow
          go_wp2_with fail
          go_roundw
          case rel => exact ⟨k + 1, by omega, by go_num, HR2, hw1, x1⟩
          case measure => simp [intOf]; omega
    · have hkk : k = P.length := by omega
      subst hkk
      have hg := HG.out
      have hf : freeB es P = true := by
        unfold freeB
        apply decide_eq_true
        have h := hrow.out.2
        unfold flatTo at h
        rwa [List.take_length] at h
      rw [hf] at hg
      subst hg
      clear hf
      go_wp2_with fail
      go_ret
      exact ⟨rfl, hw1⟩

end Go.Proofs.YtigkgfdnnfmmmaaGreat

namespace Go.Proofs.YtigkgfdnnfmmmaaGreat
open Go.RowKit

theorem run_append_pair (w : World) (ty : TypeId) (base : Nat) (v : Value) (n : Nat) (xs : List Value) (hown : w.ownsRow base 98 2 v n xs) (b : Nat) (u0 u1 : Value)
    (hc0 : w.cell? ⟨b, 0, none⟩ = some u0) (hc1 : w.cell? ⟨b, 1, none⟩ = some u1) (o0 : u0.oneCell' = true) (o1 : u1.oneCell' = true) (hn : n ≤ 1073741824) (hbase : base ≤ w.heap.size) :
    ∃ v' w', (Builtin.append_ #[41, 41] ty #[v, .slice (some ⟨b, 0, none⟩) 1 1]).run Tryz.prog w = .ok v' w' ∧ w'.ownsRow base 98 2 v' (n + 1) (xs ++ [u0, u1]) ∧ w.grownBy w' v.ownBlock := by
  obtain ⟨i, hi, hzz⟩ := Option.map_eq_some_iff.1 Tryz.infoTr
  simp only [Prod.mk.injEq] at hzz
  obtain ⟨hz, hs, hby⟩ := hzz
  obtain ⟨v', w', hr, h2, h3, _⟩ := run_append_own (P := Tryz.prog) w base 41 ty 98 i _ 2 48 Tryz.underlying41 hi hz hs hby rfl (by omega) v n xs hown ⟨b, 0, none⟩ 1 1 [u0, u1]
    rfl (fun j u hj => by
      match j, hj with
      | 0, hj => simp only [List.getElem?_cons_zero, Option.some.injEq] at hj; subst hj; exact hc0
      | 1, hj => simp only [List.getElem?_cons_succ, List.getElem?_cons_zero, Option.some.injEq] at hj; subst hj; exact hc1
      | (j + 2), hj => simp at hj) (fun u hu => by
      simp only [List.mem_cons, List.not_mem_nil, or_false] at hu
      rcases hu with rfl | rfl
      · exact o0
      · exact o1) (by unfold maxLen; omega) (by omega) hbase
  exact ⟨v', w', hr, h2, h3⟩

theorem wp_append_pair {o : Oper} {a : Act} {w : World} {K : Act → World → Prop} {Q : Exit → Act → World → Prop} (s x : Operand)
    (ho : o.op = .call { callee := .builtin .append, args := #[s, x], argTypes := #[41, 41] })
    (base : Nat) (v : Value) (n : Nat) (xs : List Value) (hs : a.eval s = v) (hown : w.ownsRow base 98 2 v n xs) (b : Nat) (u0 u1 : Value) (hx : a.eval x = .slice (some ⟨b, 0, none⟩) 1 1)
    (hc0 : w.cell? ⟨b, 0, none⟩ = some u0) (hc1 : w.cell? ⟨b, 1, none⟩ = some u1) (o0 : u0.oneCell' = true) (o1 : u1.oneCell' = true) (hn : n ≤ 1073741824) (hbase : base ≤ w.heap.size)
    (h : ∀ v' w', w'.ownsRow base 98 2 v' (n + 1) (xs ++ [u0, u1]) → w.grownBy w' v.ownBlock → K (a.put o.dst v') w') : o.wp Tryz.prog a w K Q := by
  obtain ⟨v', w', hr, h2, h3⟩ := run_append_pair w o.type base v n xs hown b u0 u1 hc0 hc1 o0 o1 hn hbase
  unfold Oper.wp execOp
  simp only [ho, resolve, invoke, builtin, Sem.run_bind, Sem.run_pure, Result.andThen_ok, List.map_toArray, List.map_cons, List.map_nil, hs, hx, hr]
  exact h v' w' h2 h3

/-- an int row owned by the call -/
abbrev IRow (B : Nat) (w : World) (v : Value) (zs : List Int) : Prop := w.ownsRow B 3 1 v zs.length (intCells zs)
theorem IRow.form {B : Nat} {w : World} {v : Value} {zs : List Int} (h : IRow B w v zs) : ∃ a c, v = .slice a zs.length c := by
  obtain ⟨a, c, rfl, _⟩ := ints_of_owns h
  exact ⟨a, c, rfl⟩
theorem IRow.low {B B' : Nat} {w : World} {v : Value} {zs : List Int} (h : IRow B w v zs) (hB : B' ≤ B) : IRow B' w v zs := Go.Joins.ownsRow_le h hB
/-- the block of a row of transitions is no block of a row of ints -/
theorem rows_apart {B B' : Nat} {w : World} {v v' : Value} {n n' : Nat} {xs ys : List Value} (h : w.ownsRow B 3 1 v n xs) (h' : w.ownsRow B' 98 2 v' n' ys) : v.ownBlock = none ∨ v.ownBlock ≠ v'.ownBlock := by
  rcases h.2 with ⟨rfl, _⟩ | ⟨g, cap, cur, rfl, _, hg, _⟩
  · exact Or.inl rfl
  · right
    rcases h'.2 with ⟨rfl, _⟩ | ⟨g', cap', cur', rfl, _, hg', _⟩
    · simp [Value.ownBlock]
    · intro e
      simp only [Value.ownBlock, Option.some.injEq] at e
      subst e
      rw [hg] at hg'
      simp at hg'

/-- the cells xs hold k transitions, each list an int row owned by the call -/
def OwnTrs (B : Nat) (w : World) (xs : List Value) (k : Nat) (ts : List Tr) : Prop :=
  xs.length = k * 2 ∧ ∀ i, i < k → ∃ v0 v1, xs[i * 2]? = some v0 ∧ xs[i * 2 + 1]? = some v1 ∧ IRow B w v0 (ts.getD i ([], [])).1 ∧ IRow B w v1 (ts.getD i ([], [])).2
theorem OwnTrs.zero (B : Nat) (w : World) (ts : List Tr) : OwnTrs B w [] 0 ts := ⟨rfl, fun _ h => absurd h (Nat.not_lt_zero _)⟩
theorem OwnTrs.after {B : Nat} {w w' : World} {xs : List Value} {k : Nat} {ts : List Tr} (h : OwnTrs B w xs k ts) (hb : Below w.heap.size w w') : OwnTrs B w' xs k ts := by
  refine ⟨h.1, fun i hi => ?_⟩
  obtain ⟨v0, v1, e0, e1, h0, h1⟩ := h.2 i hi
  exact ⟨v0, v1, e0, e1, owns_after h0 hb, owns_after h1 hb⟩
theorem OwnTrs.grown {B B' : Nat} {w w' : World} {xs ys : List Value} {k n : Nat} {v : Value} {ts : List Tr} (h : OwnTrs B w xs k ts) (hown : w.ownsRow B' 98 2 v n ys) (hg : w.grownBy w' v.ownBlock) : OwnTrs B w' xs k ts := by
  refine ⟨h.1, fun i hi => ?_⟩
  obtain ⟨v0, v1, e0, e1, h0, h1⟩ := h.2 i hi
  exact ⟨v0, v1, e0, e1, h0.kept hg (rows_apart h0 hown), h1.kept hg (rows_apart h1 hown)⟩
theorem OwnTrs.put {B : Nat} {w : World} {xs : List Value} {k : Nat} {ts : List Tr} {u0 u1 : Value} (h : OwnTrs B w xs k ts) (h0 : IRow B w u0 (ts.getD k ([], [])).1) (h1 : IRow B w u1 (ts.getD k ([], [])).2) : OwnTrs B w (xs ++ [u0, u1]) (k + 1) ts := by
  have hl := h.1
  refine ⟨by simp [hl]; omega, fun i hi => ?_⟩
  by_cases e : i = k
  · subst e
    refine ⟨u0, u1, ?_, ?_, h0, h1⟩
    · rw [List.getElem?_append_right (by omega), hl]; simp
    · rw [List.getElem?_append_right (by omega), hl, show i * 2 + 1 - i * 2 = 1 by omega]; rfl
  · obtain ⟨v0, v1, e0, e1, q0, q1⟩ := h.2 i (by omega)
    exact ⟨v0, v1, by rw [List.getElem?_append_left (by omega)]; exact e0, by rw [List.getElem?_append_left (by omega)]; exact e1, q0, q1⟩
theorem OwnTrs.read {B : Nat} {w : World} {xs : List Value} {v : Value} {ts : List Tr} (h : OwnTrs B w xs ts.length ts) (hown : w.ownsRow B 98 2 v ts.length xs) : TrsAt B w v ts := by
  have h0 := hown
  rcases hown.2 with ⟨rfl, hn⟩ | ⟨g, cap, cur, rfl, hb, hg, hnc, _⟩
  · have hz : ts = [] := List.eq_nil_of_length_eq_zero hn
    subst hz
    exact ⟨_, _, rfl, Nat.le_refl _, Or.inl rfl⟩
  · refine ⟨_, _, rfl, hnc, Or.inr ⟨g, 0, rfl, hb, fun i hi => ?_⟩⟩
    obtain ⟨v0, v1, e0, e1, q0, q1⟩ := h.2 i hi
    refine ⟨v0, v1, ?_, ?_, ints_of_owns q0, ints_of_owns q1⟩
    · rw [Nat.zero_add, h0.cellAt (i * 2) (by omega)]; exact e0
    · rw [Nat.zero_add, h0.cellAt (i * 2 + 1) (by omega)]; exact e1

theorem owns_set {B : Nat} {w : World} {e : TypeId} {size n : Nat} {v : Value} {xs : List Value} (h : w.ownsRow B e size v n xs) {p : Addr} (hp : p.block < B) (u : Value) : (w.setCell p u).ownsRow B e size v n xs := by
  refine h.kept (grownBy_set w p u) ?_
  cases hb : v.ownBlock with
  | none => exact Or.inl rfl
  | some g =>
    have := (h.lt g hb).1
    exact Or.inr (by simp; omega)
theorem owns_form {B : Nat} {w : World} {e : TypeId} {size n : Nat} {v : Value} {xs : List Value} (h : w.ownsRow B e size v n xs) : ∃ a c, v = .slice a n c := by
  rcases h.2 with ⟨rfl, rfl⟩ | ⟨g, cap, cur, rfl, _⟩
  · exact ⟨_, _, rfl⟩
  · exact ⟨_, _, rfl⟩
theorem OwnTrs.set {B : Nat} {w : World} {xs : List Value} {k : Nat} {ts : List Tr} (h : OwnTrs B w xs k ts) {p : Addr} (hp : p.block < B) (u : Value) : OwnTrs B (w.setCell p u) xs k ts := by
  refine ⟨h.1, fun i hi => ?_⟩
  obtain ⟨v0, v1, e0, e1, h0, h1⟩ := h.2 i hi
  exact ⟨v0, v1, e0, e1, owns_set h0 hp u, owns_set h1 hp u⟩

/-- a call returns a net that reads so, and this bool -/
def RetNB (w : World) (n : NetD) (b : Bool) (e : Ending) (w' : World) : Prop :=
  ∃ u, e = .returned (.tuple #[.agg #[.int .i64 n.places, u], .bool b]) ∧ TrsAt w.heap.size w' u n.ts ∧ Below w.heap.size w w'

end Go.Proofs.YtigkgfdnnfmmmaaGreat
