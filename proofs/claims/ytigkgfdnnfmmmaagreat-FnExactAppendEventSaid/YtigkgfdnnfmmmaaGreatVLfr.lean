/- THE WHOLE TEST of an unfolding, said of data: step by step, the program's and the model's.
   WALK: l7Free of the model. -/
import Derived.Test.YtigkgfdnnfmmmaaGreatVUfi
import Derived.Test.YtigkgfdnnfmmmaaGreatVShs
import Derived.Test.YtigkgfdnnfmmmaaGreatVNeta
namespace Go.Proofs.YtigkgfdnnfmmmaaGreat
open Go.RowKit

theorem rise_ge {hi : Int} {l : List Int} (h : riseB 0 hi l = true) : ∀ i : Nat, i < l.length → (i : Int) ≤ l.getD i 0
  | 0, h0 => (of_decide_eq_true h 0 h0).1
  | i + 1, h1 => by
    have ih := rise_ge h i (by omega)
    have := (of_decide_eq_true h (i + 1) h1).2.2 (by omega)
    rw [Nat.add_sub_cancel] at this
    omega
theorem rise_size {hi : Int} {l : List Int} {n : Nat} (h : riseB 0 hi l = true) (hn : hi + 1 ≤ (n : Int)) : l.length ≤ n := by
  by_cases e : l.length = 0
  · omega
  · have h1 := rise_ge h (l.length - 1) (by omega)
    have h2 := (of_decide_eq_true h (l.length - 1) (by omega)).2.1
    omega
theorem goodN_tr {n : NetD} (h : goodN n = true) {t : Int} (ht : trOk n t = true) : riseB 0 (n.places - 1) (preOf n t) = true ∧ riseB 0 (n.places - 1) (postOf n t) = true := by
  have ht := of_decide_eq_true ht
  unfold goodN at h
  simp only [Bool.and_eq_true] at h
  have h3 := h.2
  unfold trsGood at h3
  rw [List.all_eq_true] at h3
  have hlt : t.toNat < n.ts.length := by omega
  have h4 := h3 (n.ts[t.toNat]) (List.getElem_mem hlt)
  unfold trGood at h4
  simp only [Bool.and_eq_true] at h4
  unfold preOf postOf
  simp only [List.getD, List.getElem?_eq_getElem hlt, Option.getD_some]
  exact ⟨h4.1.2, h4.2⟩
theorem goodN_places {n : NetD} (h : goodN n = true) : 1 ≤ n.places ∧ n.places ≤ 30 := by
  unfold goodN at h
  simp only [Bool.and_eq_true] at h
  exact of_decide_eq_true h.1.1
theorem post_len {n : NetD} (h : goodN n = true) {t : Int} (ht : trOk n t = true) : (postOf n t).length ≤ 30 := rise_size (goodN_tr h ht).2 (by have := goodN_places h; omega)
theorem pre_len {n : NetD} (h : goodN n = true) {t : Int} (ht : trOk n t = true) : (preOf n t).length ≤ 30 := rise_size (goodN_tr h ht).1 (by have := goodN_places h; omega)

/-- event k may follow those before it -/
def stepOk (n : NetD) (c0 : List Cnd) (evs : List Ev) (k : Nat) : Bool := hisEx n (hisTo n c0 evs k) (evT evs k) (evP evs k)
def runB (n : NetD) (c0 : List Cnd) (evs : List Ev) : Bool := decide (∀ k, k < evs.length → stepOk n c0 evs k = true)
theorem runB_no {n : NetD} {c0 : List Cnd} {evs : List Ev} {k : Nat} (hk : k < evs.length) (h : stepOk n c0 evs k = false) : runB n c0 evs = false := by
  unfold runB
  rw [decide_eq_false_iff_not]
  intro q
  rw [q k hk] at h
  cases h
theorem runB_yes {n : NetD} {c0 : List Cnd} {evs : List Ev} (h : ∀ k, k < evs.length → stepOk n c0 evs k = true) : runB n c0 evs = true := decide_eq_true h
theorem stepOk_tr {n : NetD} {c0 : List Cnd} {evs : List Ev} {k : Nat} (h : stepOk n c0 evs k = true) : trOk n (evT evs k) = true := by
  unfold stepOk hisEx exB at h
  simp only [Bool.and_eq_true] at h
  exact h.1
theorem stepOk_in {n : NetD} {c0 : List Cnd} {evs : List Ev} {k : Nat} (h : stepOk n c0 evs k = true) : ∀ q, q < (evP evs k).length → 0 ≤ (evP evs k).getD q 0 ∧ (evP evs k).getD q 0 < ((hisTo n c0 evs k).cs.length : Int) := by
  unfold stepOk hisEx exB at h
  simp only [Bool.and_eq_true] at h
  exact rise_in rfl h.2.1
theorem hisTo_es {n : NetD} {c0 : List Cnd} {evs : List Ev} : ∀ k, k ≤ evs.length → (hisTo n c0 evs k).es = evs.take k
  | 0, _ => rfl
  | k + 1, h => by
    show (hisTo n c0 evs k).es ++ [(evT evs k, evP evs k)] = _
    rw [hisTo_es k (by omega), List.take_succ_eq_append_getElem (by omega), ev_getD (by omega)]
theorem hisTo_len {n : NetD} {c0 : List Cnd} {evs : List Ev} : ∀ k, (hisTo n c0 evs k).es.length = k
  | 0 => rfl
  | k + 1 => by
    show ((hisTo n c0 evs k).es ++ [(evT evs k, evP evs k)]).length = _
    rw [List.length_append, hisTo_len k]; rfl
theorem hisTo_cs {n : NetD} {c0 : List Cnd} {evs : List Ev} (hg : goodN n = true) : ∀ k, (∀ j, j < k → stepOk n c0 evs j = true) → (hisTo n c0 evs k).cs.length ≤ c0.length + 30 * k
  | 0, _ => by simp [hisTo]
  | k + 1, h => by
    have ih := hisTo_cs hg k (fun j hj => h j (by omega))
    show ((hisTo n c0 evs k).cs ++ madeBy n (evT evs k) (hisTo n c0 evs k).es.length).length ≤ _
    have := post_len hg (stepOk_tr (h k (by omega)))
    rw [List.length_append]
    unfold madeBy
    rw [List.length_map]
    omega
theorem born_by (s : ByteArray) : ∀ k i, i < (bornTo s k).length → cnB (bornTo s k) i = -1
  | 0, i, h => absurd h (Nat.not_lt_zero _)
  | k + 1, i, h => by
    by_cases e : i < (bornTo s k).length
    · show cnB (bornTo s k ++ _) i = -1
      rw [cnB_left e]; exact born_by s k i e
    · show cnB (bornTo s k ++ (if (s.get! k).toNat = 49 then [((k : Int), -1)] else [])) i = -1
      have h2 : i < (bornTo s k ++ (if (s.get! k).toNat = 49 then [((k : Int), (-1 : Int))] else [])).length := h
      rw [List.length_append] at h2
      split at h2
      · rename_i e2
        rw [if_pos e2]
        have : i = (bornTo s k).length := by simp at h2; omega
        subst this
        simp [cnB, List.getD]
      · simp at h2; omega
theorem hisTo_good {n : NetD} {s : ByteArray} {evs : List Ev} : ∀ k, k ≤ 60 → (∀ j, j < k → stepOk n (bornTo s s.size) evs j = true) → HisG (hisTo n (bornTo s s.size) evs k)
  | 0, _, _ => hisG_zero (n := n) (evs := evs) (born_by s s.size)
  | k + 1, h, hs => by
    have ih := hisTo_good (n := n) (s := s) (evs := evs) k (by omega) (fun j hj => hs j (by omega))
    exact hisG_add ih (by rw [hisTo_len]; omega) (hs k (by omega))
theorem hisTo_evP {n : NetD} {c0 : List Cnd} {evs : List Ev} {k : Nat} (hk : k ≤ evs.length) {i : Nat} (hi : i < k) : evP (hisTo n c0 evs k).es i = evP evs i ∧ evT (hisTo n c0 evs k).es i = evT evs i := by
  rw [hisTo_es k hk]
  simp [evP, evT, List.getD, hi]
theorem hisTo_ok {n : NetD} {s : ByteArray} {evs : List Ev} (hg : goodN n = true) (hs : (bornTo s s.size).length ≤ 1000000) (hev : SmallEvs evs) {k : Nat} (hk : k ≤ evs.length) (h60 : k ≤ 60) (h : ∀ j, j < k → stepOk n (bornTo s s.size) evs j = true) :
    HisOk n (hisTo n (bornTo s s.size) evs k).cs (hisTo n (bornTo s s.size) evs k).es (hisTo n (bornTo s s.size) evs k).ps (hisTo n (bornTo s s.size) evs k).us := by
  have hG := hisTo_good (n := n) (s := s) (evs := evs) k h60 h
  have hc := hisTo_cs hg k h
  have hl := hisTo_len (n := n) (c0 := bornTo s s.size) (evs := evs) k
  refine ⟨by omega, by omega, hG.m.pe, hG.m.uc, by rw [hG.m.pe]; exact hG.m.by_, hG.fp, hG.fu, fun i hi => ?_⟩
  rw [(hisTo_evP hk (by omega)).1]
  exact hev.2 i (by omega)
/-- the model's test of event k is the program's -/
theorem fit_step {n : NetD} {s : ByteArray} {evs : List Ev} (hg : goodN n = true) {k : Nat} (h60 : k ≤ 60) (h : ∀ j, j < k → stepOk n (bornTo s s.size) evs j = true) (t : Int) (L : List Int) :
    fitB n (hisTo n (bornTo s s.size) evs k).cs (hisTo n (bornTo s s.size) evs k).es t L = hisEx n (hisTo n (bornTo s s.size) evs k) t L := by
  have hG := hisTo_good (n := n) (s := s) (evs := evs) k h60 h
  exact fit_same hg hG.m hG.fu hG.nd t L

/-- the conditions behind all events -/
def finC (n : NetD) (s : ByteArray) (u : UnfD) : List Cnd := (hisTo n (bornTo s s.size) u.es u.es.length).cs
/-- a valid unfolding -/
def uvB (n : NetD) (s : ByteArray) (u : UnfD) : Bool :=
  iuB n s && (decide (u.es.length ≤ 60) && (runB n (bornTo s s.size) u.es && (decide ((finC n s u).length ≤ 200) && decide (finC n s u = u.cs))))
theorem uvB_lim {n : NetD} {s : ByteArray} {u : UnfD} (h : 60 < u.es.length ∨ 200 < u.cs.length) : uvB n s u = false := by
  unfold uvB
  by_cases h1 : u.es.length ≤ 60
  · by_cases h2 : finC n s u = u.cs
    · have h3 : ¬ (finC n s u).length ≤ 200 := by rw [h2]; omega
      rw [decide_eq_false h3]
      simp
    · rw [decide_eq_false h2]
      simp
  · rw [decide_eq_false h1]
    simp
theorem iuB_good {n : NetD} {s : ByteArray} (h : iuB n s = true) : goodN n = true ∧ s.size ≤ 30 := by
  unfold iuB markB at h
  simp only [Bool.and_eq_true] at h
  have h1 := goodN_places h.1
  have h2 := of_decide_eq_true h.2.2
  exact ⟨h.1, by omega⟩
theorem born_len {n : NetD} {s : ByteArray} (h : iuB n s = true) : (bornTo s s.size).length ≤ 30 := Nat.le_trans (bornTo_length s s.size) (iuB_good h).2

end Go.Proofs.YtigkgfdnnfmmmaaGreat

namespace Go.Proofs.YtigkgfdnnfmmmaaGreat
open Go.RowKit

theorem Tryz.infoBool7 : (Tryz.prog.info? 4).map (fun i => (i.zero, i.size, i.bytes)) = some (some (.bool false), 1, 1) := by kernel_rfl
/-- what has been seen -/
def seenV (F : List Int) : Nat → Value := fun k => .bool (decide ((k : Int) ∈ F))
theorem seenV_up (F : List Int) (c : Nat) : (fun j => if j = c then Value.bool true else seenV F j) = seenV (F ++ [(c : Int)]) := by
  funext j
  unfold seenV
  by_cases h : j = c
  · subst h; simp
  · rw [if_neg h]
    have : ¬ (j : Int) = (c : Int) := by omega
    simp [this]
def flatTo (es : List Ev) (P : List Nat) (k : Nat) : List Int := (P.take k).flatMap (evP es)
theorem flatTo_succ {es : List Ev} {P : List Nat} {k : Nat} (hk : k < P.length) : flatTo es P (k + 1) = flatTo es P k ++ evP es (P.getD k 0) := by
  unfold flatTo
  rw [List.take_succ_eq_append_getElem hk, List.flatMap_append]
  simp [List.getD, hk]
theorem freeB_no {es : List Ev} {P : List Nat} {k j : Nat} (hk : k < P.length) (hj : j < (evP es (P.getD k 0)).length) (h : (evP es (P.getD k 0)).getD j 0 ∈ flatTo es P k ++ (evP es (P.getD k 0)).take j) : freeB es P = false := by
  unfold freeB
  apply decide_eq_false
  intro hn
  have e1 : P.flatMap (evP es) = flatTo es P (k + 1) ++ (P.drop (k + 1)).flatMap (evP es) := by
    unfold flatTo
    rw [← List.flatMap_append, List.take_append_drop]
  rw [e1, flatTo_succ hk] at hn
  generalize P.getD k 0 = e at hj h hn
  have hn1 := (List.nodup_append.1 hn).1
  have e2 : evP es e = (evP es e).take j ++ ((evP es e).getD j 0 :: (evP es e).drop (j + 1)) := by
    have : (evP es e).getD j 0 = (evP es e)[j] := by simp [List.getD, hj]
    rw [this, ← List.drop_eq_getElem_cons hj, List.take_append_drop]
  rw [e2] at hn1
  generalize (evP es e).getD j 0 = c at h hn1
  rw [← List.append_assoc] at hn1
  exact (List.nodup_append.1 hn1).2.2 c h c (List.mem_cons_self ..) rfl
theorem nodup_snoc {F : List Int} {c : Int} (h : F.Nodup) (hc : c ∉ F) : (F ++ [c]).Nodup := by
  refine List.nodup_append.2 ⟨h, by simp, fun a ha b hb e => ?_⟩
  simp at hb
  subst e; subst hb
  exact hc ha

set_option maxRecDepth 100000 in
set_option maxHeartbeats 2000000 in
theorem l7Free_any (v vl : Value) (cs : List Cnd) (es : List Ev) (P : List Nat) (w : World) (lo lo' : Nat) (hv : UnfAt lo w v ⟨cs, es⟩) (hvl : IntsAt lo' w vl (P.map fun (e : Nat) => (e : Int))) (hl : P.length ≤ 1048576) (hc : cs.length ≤ 1048576) (hev : ∀ k, k < es.length → (evP es k).length ≤ 1048576) (hin : ∀ k, k < P.length → P.getD k 0 < es.length) (hcin : ∀ e, e < es.length → ∀ q, q < (evP es e).length → 0 ≤ (evP es e).getD q 0 ∧ (evP es e).getD q 0 < (cs.length : Int)) :
    Calls Tryz.prog 78 #[v, vl] w (RetB w (freeB es P)) := by
  obtain ⟨G, hG⟩ : ∃ x, x = freeB es P := ⟨_, rfl⟩
  rw [← hG]
  have HG := Lib.hid hG; clear hG
  obtain ⟨a0, c0, a1, c1, rfl, hcn, hes⟩ := hv.form
  clear hv hcn
  obtain ⟨ac, kc, e0, hkc, hcz⟩ := hes
  injection e0 with e1 e2 e3
  subst e1; subst e3; clear e2
  simp only at hkc hcz ⊢
  have HC := Lib.hid hcz; clear hcz hkc
  have HIN := Lib.hid hin; clear hin
  have HEV := Lib.hid hev; clear hev
  have HCI := Lib.hid hcin; clear hcin
  obtain ⟨ao, cap, rfl, hxa, hxb⟩ := hvl
  rw [List.length_map] at hxb ⊢
  have HF := Lib.hid hxb; clear hxb hxa
  obtain ⟨nc, hnc⟩ : ∃ x, x = cs.length := ⟨_, rfl⟩
  rw [← hnc] at hc HCI ⊢
  obtain ⟨ne, hne⟩ : ∃ x, x = es.length := ⟨_, rfl⟩
  rw [← hne] at HC HIN HEV HCI ⊢
  clear hnc hne
  have hmk := run_make_row' (P := Tryz.prog) 122 4 (.bool false) 1 Tryz.underlying122 Tryz.infoBool7 rfl .i64 .i64 nc (by omega) (by omega)
  go_enter Tryz.func78, Tryz.ntmps78
  go_wp2_with fail
  have hrow := World.rowIs_made (w.alloc (.cells #[.slice a0 nc c0, .slice a1 ne c1] 38)) (.bool false) nc 4
  rw [World.size_alloc] at hrow
  have hrow2 := hrow.congr (g := seenV []) (fun i _ => by unfold seenV; simp)
  have HR := Lib.hid hrow2
  have hw0 : Below w.heap.size w ((w.alloc (.cells #[.slice a0 nc c0, .slice a1 ne c1] 38)).alloc (.cells (madeCells #[.bool false] nc) 4)) := by (repeat' (first | (with_reducible exact Below.refl _ _) | (with_reducible assumption) | (with_reducible refine Below.alloc ?_ ?_ _) | (with_reducible refine Below.drew ?_) | (with_reducible refine below_drewN ?_ _) | (with_reducible refine Below.setCell ?_ ?_ _) | go_size))
  have y1 : ((w.alloc (.cells #[.slice a0 nc c0, .slice a1 ne c1] 38)).alloc (.cells (madeCells #[.bool false] nc) 4)).cell? ⟨w.heap.size, 1, none⟩ = some (.slice a1 ne c1) := by simp
  clear hrow hrow2 hmk
  generalize (w.alloc (.cells #[.slice a0 nc c0, .slice a1 ne c1] 38)).alloc (.cells (madeCells #[.bool false] nc) 4) = W at HR hw0 y1 ⊢
  go_loopw [16] (fun i wr => ∃ k : Nat, k ≤ P.length ∧ i = .int .i64 k ∧ Hid (wr.rowIs (w.heap.size + 1) 4 nc (seenV (flatTo es P k)) ∧ (flatTo es P k).Nodup) ∧ Below w.heap.size w wr ∧ wr.cell? ⟨w.heap.size, 1, none⟩ = some (.slice a1 ne c1)) (fun i _ => P.length - (intOf i).toNat)
  case atStart => exact ⟨0, Nat.zero_le _, rfl, ⟨HR.out, List.nodup_nil⟩, hw0, y1⟩
  case round =>
    clear y1 HR hw0
    obtain ⟨k, hk, rfl, hrow, hw1, x1⟩ := hrel
    by_cases hlt : k < P.length
    · rcases HF.out with h0 | ⟨b, off, rfl, hlo, hcell⟩
      · exact absurd hlt (by have h1 : P.length = 0 := (by simpa using h0); omega)
      have q0 := hcell k hlt
      have d0 := Carries.of lo' hw1 _ _ hlo q0
      have eP : (P.map fun (e : Nat) => (e : Int)).getD k 0 = ((P.getD k 0 : Nat) : Int) := by simp [List.getD, hlt]
      rw [eP] at d0
      clear hcell q0 eP
      have hin := HIN.out k hlt
      have HFS := Lib.hid (flatTo_succ (es := es) hlt)
      have HNO : Hid (∀ j, j < (evP es (P.getD k 0)).length → (evP es (P.getD k 0)).getD j 0 ∈ flatTo es P k ++ (evP es (P.getD k 0)).take j → freeB es P = false) := fun j hj h => freeB_no hlt hj h
      generalize P.getD k 0 = e at d0 hin HFS HNO
      generalize flatTo es P k = F at hrow HFS HNO
      have i1 : (0 : Int) ≤ (e : Int) := by omega
      have i2 : (e : Int) < (ne : Int) := by omega
      rcases HC.out with h0 | ⟨b2, off2, rfl, hlo2, hcell2⟩
      · exact absurd hin (by rw [h0]; exact Nat.not_lt_zero _)
      obtain ⟨v1, q0, q1, hp⟩ := hcell2 e hin
      have g1 := Carries.of lo hw1 _ _ hlo2 q1
      have HP := Lib.hid hp
      have hle := HEV.out e hin
      have HCE := Lib.hid (HCI.out e hin)
      obtain ⟨ap, kp, rfl, _, hpz⟩ := id hp
      have HPZ := Lib.hid hpz
      clear hcell2 q0 q1 hp hpz
      try dsimp only at g1
      obtain ⟨m, hm⟩ : ∃ m, m = (evP es e).length := ⟨_, rfl⟩
      rw [← hm] at hle g1 HPZ HNO HCE
      have HM := Lib.hid hm; clear hm
      go_wp2_with fail
      clear g1 d0
      go_loopw [27] (fun i wi => ∃ j : Nat, j ≤ m ∧ i = .int .i64 j ∧ Hid (wi.rowIs (w.heap.size + 1) 4 nc (seenV (F ++ (evP es e).take j)) ∧ (F ++ (evP es e).take j).Nodup) ∧ Below w.heap.size w wi ∧ wi.cell? ⟨w.heap.size, 1, none⟩ = some (.slice (some ⟨b2, off2, none⟩) ne c1)) (fun i _ => m - (intOf i).toNat)
      case atStart => exact ⟨0, Nat.zero_le _, rfl, by unfold Hid; rw [List.take_zero, List.append_nil]; exact hrow.out, hw1, x1⟩
      case round =>
        clear hw1 x1 hrow
        obtain ⟨j, hj, rfl, hrow, hw1, x1⟩ := hrel
        by_cases hjl : j < m
        · rcases HPZ.out with h0 | ⟨b3, off3, rfl, hlo3, hcell3⟩
          · exact absurd hjl (by have h1 : (evP es e).length = 0 := (by simpa using h0); have := HM.out; omega)
          have q0 := hcell3 j hjl
          have d0 := Carries.of lo hw1 _ _ hlo3 q0
          clear hcell3 q0
          have hci := HCE.out j hjl
          have hno := Lib.hid (HNO.out j hjl)
          have HTK : Hid ((evP es e).take (j + 1) = (evP es e).take j ++ [(evP es e).getD j 0]) := by
            have hjl2 : j < (evP es e).length := by rw [← HM.out]; exact hjl
            unfold Hid
            rw [List.take_succ_eq_append_getElem hjl2]
            simp [List.getD, hjl2]
          generalize (evP es e).getD j 0 = c at d0 hci hno HTK
          obtain ⟨cn, rfl⟩ := Int.eq_ofNat_of_zero_le hci.1
          have i3 := hci.1
          have i4 := hci.2
          have i5 : cn < nc := by omega
          clear hci
          have ct := hrow.out.1.cell (i := cn) i5
          have ft := hrow.out.1.frozen cn
          by_cases hs : (cn : Int) ∈ F ++ (evP es e).take j
          · have hg := HG.out
            rw [hno.out hs] at hg
            subst hg
            have e1 : seenV (F ++ (evP es e).take j) cn = .bool true := by unfold seenV; rw [decide_eq_true hs]
            rw [e1] at ct
            clear e1 hs hno HTK hrow
            go_wp2_with fail
            go_ret
            exact ⟨rfl, hw1⟩
          · have e1 : seenV (F ++ (evP es e).take j) cn = .bool false := by unfold seenV; rw [decide_eq_false hs]
            rw [e1] at ct
            have HR2 : Hid ((wr.setCell ⟨w.heap.size + 1, cn, none⟩ (.bool true)).rowIs (w.heap.size + 1) 4 nc (seenV (F ++ (evP es e).take (j + 1))) ∧ (F ++ (evP es e).take (j + 1)).Nodup) := by
              unfold Hid
              rw [HTK.out, ← List.append_assoc, ← seenV_up]
              exact ⟨hrow.out.1.set cn (.bool true), nodup_snoc hrow.out.2 hs⟩
            have x1' : (wr.setCell ⟨w.heap.size + 1, cn, none⟩ (.bool true)).cell? ⟨w.heap.size, 1, none⟩ = some (.slice (some ⟨b2, off2, none⟩) ne c1) := (World.cell?_setCell_other _ _ _ _ (fun h => by injection h; omega)).trans x1
            have hb2 : Below w.heap.size w (wr.setCell ⟨w.heap.size + 1, cn, none⟩ (.bool true)) := hw1.setCell (p := ⟨w.heap.size + 1, cn, none⟩) (by show w.heap.size ≤ w.heap.size + 1; omega) _
            have HX := Lib.hid (And.intro x1' hb2); clear x1' hb2
            clear e1 hs hno HTK hrow
            go_wp2_with fail
            go_roundw
            case rel => exact ⟨j + 1, by omega, by go_num, HR2, HX.out.2, HX.out.1⟩
            case measure => simp [intOf]; omega
        · have hjj : j = m := by omega
          subst hjj
          have HR2 : Hid (wr.rowIs (w.heap.size + 1) 4 nc (seenV (flatTo es P (k + 1))) ∧ (flatTo es P (k + 1)).Nodup) := by
            have h := hrow.out
            rw [List.take_of_length_le (by rw [HM.out]; exact Nat.le_refl _), ← HFS.out] at h
            exact h
          clear hrow
          go_wp2_with fail
          go_roundw
          case rel => exact ⟨k + 1, by omega, by go_num, HR2, hw1, x1⟩
          case measure => simp [intOf]; omega
    · have hkk : k = P.length := by omega
      subst hkk
      have hg := HG.out
      have hf : freeB es P = true := by
        unfold freeB
        apply decide_eq_true
        have h := hrow.out.2
        unfold flatTo at h
        rwa [List.take_length] at h
      rw [hf] at hg
      subst hg
      clear hf
      go_wp2_with fail
      go_ret
      exact ⟨rfl, hw1⟩

end Go.Proofs.YtigkgfdnnfmmmaaGreat
