/- WALKS: eqIntSS, markIntSS, heldIntSS of the laws: rows of ints in a row. -/
import Derived.Test.YtgmnknlnlmcmfaaVRwd
namespace Go.Proofs.Ytgmnknlnlmcmfaa
open Go.RowKit

theorem take_rows {L M : List (List Int)} {k : Nat} (hk : k < L.length) (hy : k < M.length) (h : L.take k = M.take k) (he : rwN L k = rwN M k) : L.take (k + 1) = M.take (k + 1) := by
  rw [List.take_add_one, List.take_add_one, h]
  rw [rwN_get hk, rwN_get hy] at he
  rw [List.getElem?_eq_getElem hk, List.getElem?_eq_getElem hy, he]

set_option maxRecDepth 100000 in
set_option maxHeartbeats 1000000 in
theorem eqIntSS_any (v v' : Value) (L M : List (List Int)) (w : World) (lo hi lo' hi' : Nat) (hv : RowsIn lo hi w v L) (hv' : RowsIn lo' hi' w v' M) (hs : SmallRows L) (hs' : SmallRows M) :
    Calls Try.prog 23 #[v, v'] w (RetB w (decide (L = M))) := by
  obtain ⟨ao, cap, rfl, hc, hz⟩ := hv
  obtain ⟨ao', cap', rfl, hc', hz'⟩ := hv'
  obtain ⟨k1, k2⟩ := hs
  obtain ⟨k3, k4⟩ := hs'
  have K2 := Lib.hid k2; clear k2
  have K4 := Lib.hid k4; clear k4
  have HF := Lib.hid hz; clear hz
  have HF' := Lib.hid hz'; clear hz'
  obtain ⟨q, hq⟩ : ∃ q, q = decide (L = M) := ⟨_, rfl⟩
  rw [← hq]
  have HQ := Lib.hid hq; clear hq
  obtain ⟨n, hn⟩ : ∃ n, n = L.length := ⟨_, rfl⟩
  obtain ⟨m, hm⟩ : ∃ m, m = M.length := ⟨_, rfl⟩
  rw [← hn] at HF k1 hc ⊢
  rw [← hm] at HF' k3 hc' ⊢
  have HN := Lib.hid hn; clear hn
  have HM := Lib.hid hm; clear hm
  go_enter Try.func23, Try.ntmps23
  by_cases hl : n = m
  case neg =>
    have hb : ((n : Int) != (m : Int)) = true := by rw [bne_iff_ne]; omega
    have e := HQ.out
    rw [decide_eq_false (fun h => hl (by rw [HN.out, HM.out, h]))] at e
    subst e
    clear hl
    go_wp2_with fail
    go_ret
    exact ⟨rfl, Below.refl _ _⟩
  subst hl
  have hb : ((n : Int) != (n : Int)) = false := by simp
  go_wp2_with fail
  go_loopw [5] (fun i wr => ∃ k : Nat, k ≤ n ∧ i = .int .i64 k ∧ Hid (L.take k = M.take k) ∧ Below w.heap.size w wr) (fun i _ => n - (intOf i).toNat)
  case atStart => exact ⟨0, Nat.zero_le _, rfl, rfl, Below.refl _ _⟩
  case round =>
    obtain ⟨k, hk, rfl, ht, hb1⟩ := hrel
    by_cases hlt : k < n
    · rcases HF.out with h0 | ⟨b, off, rfl, hlo, hhi, hcell⟩
      · omega
      rcases HF'.out with h0 | ⟨b', off', rfl, hlo', hhi', hcell'⟩
      · omega
      obtain ⟨a, c, x0, hx⟩ := hcell k hlt
      obtain ⟨a', c', y0, hy⟩ := hcell' k hlt
      have d0 := cell_carry x0 (Carries.of 0 hb1)
      have d1 := cell_carry y0 (Carries.of 0 hb1)
      have H1 := Lib.hid (hx.1.keep (Carries.of lo hb1))
      have H2 := Lib.hid (hy.1.keep (Carries.of lo' hb1))
      have s1 := K2.out k
      have s2 := K4.out k
      have hne : decide (L = M) = false ∨ rwN L k = rwN M k := by
        by_cases e : rwN L k = rwN M k
        · exact Or.inr e
        · exact Or.inl (decide_eq_false (fun h => e (by rw [h])))
      have HNE := Lib.hid hne
      have HSU := Lib.hid (fun e => take_rows (L := L) (M := M) (by rw [← HN.out]; exact hlt) (by rw [← HM.out]; exact hlt) ht.out e)
      clear hcell hcell' x0 y0 hx hy hne
      generalize rwN L k = X at *
      generalize rwN M k = Y at *
      go_wp2_with fail
      go_still_tail 8, (by kernel_rfl)
      change wpList _ _ _ _ _ wr.drew
      go_wp2_with fail
      refine (eqIntS_any _ _ X Y _ lo lo' (H1.out.keep (Carries.of lo (Below.refl _ _).drew)) (H2.out.keep (Carries.of lo' (Below.refl _ _).drew)) (by omega) (by omega)).mono ?_
      rintro e w1 ⟨rfl, hb2⟩
      have hw1 : Below w.heap.size w w1 := by
        refine Below.trans ?_ (hb2.mono ?_)
        · (repeat' (first | (with_reducible exact Below.refl _ _) | (with_reducible assumption) | (with_reducible refine Below.alloc ?_ ?_ _) | (with_reducible refine Below.drew ?_) | (with_reducible refine below_drewN ?_ _) | (with_reducible refine Below.setCell ?_ ?_ _) | go_size))
        · simpa using hb1.size
      clear hb2 d0 d1 H1 H2
      cases hd : decide (X = Y) with
      | false =>
        have e := HQ.out
        rcases HNE.out with h | h
        · rw [h] at e
          subst e
          clear hd h
          go_wp2_with fail
          go_ret
          exact ⟨rfl, hw1⟩
        · exact absurd h (of_decide_eq_false hd)
      | true =>
        have hs := Lib.hid (HSU.out (of_decide_eq_true hd))
        clear hd
        go_wp2_with fail
        go_roundw
        case rel => exact ⟨k + 1, by omega, by go_num, hs, hw1⟩
        case measure => simp [intOf]; omega
    · have hkk : k = n := by omega
      subst hkk
      have e := HQ.out
      have h1 := ht.out
      rw [List.take_of_length_le (by rw [← HN.out]; exact Nat.le_refl _), List.take_of_length_le (by rw [← HM.out]; exact Nat.le_refl _)] at h1
      rw [decide_eq_true h1] at e
      subst e
      clear h1
      go_wp2_with fail
      go_ret
      exact ⟨rfl, hb1⟩

/-- how many ints the first k rows hold -/
def totR (L : List (List Int)) : Nat → Nat
  | 0 => 0
  | k + 1 => totR L k + (rwN L k).length
theorem totR_le {L : List (List Int)} (h : ∀ i, (rwN L i).length ≤ 1048576) : ∀ k, totR L k ≤ k * 1048576
  | 0 => Nat.zero_le _
  | k + 1 => by
    have h1 := totR_le h k
    have h2 := h k
    show totR L k + _ ≤ _
    rw [Nat.succ_mul]; omega
def totL (L : List (List Int)) : Nat := totR L L.length
/-- the rows behind the marks -/
def mkdR (k : Int) (L : List (List Int)) (i : Nat) : List Int := upFrom (k + (totR L i : Nat)) (rwN L i).length
def mkdL (k : Int) (L : List (List Int)) : List (List Int) := (List.range L.length).map (mkdR k L)
theorem mkdL_length (k : Int) (L : List (List Int)) : (mkdL k L).length = L.length := by simp [mkdL]
theorem mkdL_get {k : Int} {L : List (List Int)} {i : Nat} (h : i < L.length) : rwN (mkdL k L) i = mkdR k L i := by simp [rwN, mkdL, List.getD, h]

/-- rows by number, each the call's own, no two of one block -/
def RowsF (B : Nat) (w : World) (us : Nat → Value) (n : Nat) (M : Nat → List Int) : Prop :=
  (∀ i, i < n → IntsOw B w (us i) (M i) ∧ Bound w.heap.size (us i)) ∧
  (∀ i j, i < n → j < n → i ≠ j → ∀ b off c off' c', us i = .slice (some ⟨b, off, none⟩) (M i).length c → us j = .slice (some ⟨b, off', none⟩) (M j).length c' → (M i).length = 0 ∨ (M j).length = 0)
theorem IntsOw.other {B lo hi : Nat} {w w' : World} {v : Value} {zs : List Int} (h : IntsOw B w v zs) (hm : Marks lo hi w w') (ho : ∀ b off c, v = .slice (some ⟨b, off, none⟩) zs.length c → 0 < zs.length → (b < lo ∨ hi ≤ b)) : IntsOw B w' v zs := by
  obtain ⟨ao, cap, rfl, hc, hz⟩ := h
  refine ⟨ao, cap, rfl, hc, ?_⟩
  rcases hz with hz | ⟨b, off, rfl, hlo, hcell⟩
  · exact Or.inl hz
  · refine Or.inr ⟨b, off, rfl, hlo, fun i hi => ?_⟩
    have hk := hm.block b (ho b off cap rfl (by omega))
    exact ⟨(World.cell?_of_block (w := w) (w' := w') (a := ⟨b, off + i, none⟩) hk).trans (hcell i hi).1, (World.frozen?_of_block (w := w) (w' := w') (a := ⟨b, off + i, none⟩) hk).trans (hcell i hi).2⟩
theorem IntsOw.remarked {B lo hi : Nat} {w w' : World} {v : Value} {zs : List Int} {k : Int} (h : IntsOw B w v zs) (hm : Marks lo hi w w') (hex : ∀ b off c, v = .slice (some ⟨b, off, none⟩) zs.length c → ∀ i, i < zs.length → w'.cell? ⟨b, off + i, none⟩ = some (.int .i64 (k + i))) : IntsOw B w' v (upFrom k zs.length) := by
  obtain ⟨ao, cap, rfl, hc, hz⟩ := h
  refine ⟨ao, cap, by rw [upFrom_length], by rw [upFrom_length]; exact hc, ?_⟩
  rcases hz with rfl | ⟨b, off, rfl, hlo, hcell⟩
  · exact Or.inl rfl
  · refine Or.inr ⟨b, off, rfl, hlo, fun i hi => ?_⟩
    rw [upFrom_length] at hi
    rw [upFrom_get hi]
    exact ⟨hex b off cap rfl i hi, (hm.frozen _).trans (hcell i hi).2⟩
/-- between which blocks the marks of row j lie -/
theorem RowsF.span {B : Nat} {w : World} {us : Nat → Value} {n : Nat} {M : Nat → List Int} (h : RowsF B w us n M) {j : Nat} (hj : j < n) (hB : B ≤ w.heap.size) :
    ∃ lo hi, B ≤ lo ∧ hi ≤ w.heap.size ∧ lo ≤ w.heap.size ∧ BoxAt lo hi w (us j) (M j).length ∧ ∀ i, i < n → i ≠ j → ∀ b off c, us i = .slice (some ⟨b, off, none⟩) (M i).length c → 0 < (M i).length → (b < lo ∨ hi ≤ b) := by
  obtain ⟨h1, h2⟩ := h.1 j hj
  obtain ⟨ao, cap, hv, hc, hz⟩ := h1
  by_cases h0 : (M j).length = 0
  · exact ⟨B, B, Nat.le_refl _, hB, hB, ⟨ao, cap, hv, Or.inl h0⟩, fun i _ _ b off c _ _ => by omega⟩
  · rcases hz with hz | ⟨b, off, rfl, hlo, hcell⟩
    · rw [hz] at h0; simp at h0
    · have hb := h2 b off _ _ hv (by omega)
      refine ⟨b, b + 1, hlo, by omega, by omega, ⟨_, cap, hv, Or.inr ⟨b, off, rfl, Nat.le_refl _, by omega, fun i hi => ⟨⟨_, (hcell i hi).1⟩, (hcell i hi).2⟩⟩⟩, fun i hi hne b' off' c' hv' hl' => ?_⟩
      by_cases e : b' = b
      · subst e
        rcases h.2 i j hi hj hne _ _ _ _ _ hv' hv with q | q <;> omega
      · omega
/-- the first j rows hold their marks -/
def mixR (k : Int) (L : List (List Int)) (j : Nat) : Nat → List Int := fun i => if i < j then mkdR k L i else rwN L i
theorem mixR_length (k : Int) (L : List (List Int)) (j i : Nat) : (mixR k L j i).length = (rwN L i).length := by
  unfold mixR; split
  · exact upFrom_length _ _
  · rfl
theorem RowsF.step {B lo hi : Nat} {w w' : World} {us : Nat → Value} {n : Nat} {k : Int} {L : List (List Int)} {j : Nat} (h : RowsF B w us n (mixR k L j)) (hj : j < n) (hm : Marks lo hi w w')
    (ho : ∀ i, i < n → i ≠ j → ∀ b off c, us i = .slice (some ⟨b, off, none⟩) (mixR k L j i).length c → 0 < (mixR k L j i).length → (b < lo ∨ hi ≤ b))
    (hex : ∀ b off c, us j = .slice (some ⟨b, off, none⟩) (rwN L j).length c → ∀ i, i < (rwN L j).length → w'.cell? ⟨b, off + i, none⟩ = some (.int .i64 (k + (totR L j : Nat) + i))) : RowsF B w' us n (mixR k L (j + 1)) := by
  refine ⟨fun i hi => ⟨?_, (h.1 i hi).2.wide (by rw [hm.size]; exact Nat.le_refl _)⟩, fun i q hi hq hne b off c off' c' e1 e2 => ?_⟩
  · by_cases e : i = j
    · subst e
      have e1 : mixR k L i i = rwN L i := by unfold mixR; rw [if_neg (Nat.lt_irrefl _)]
      have e2 : mixR k L (i + 1) i = upFrom (k + (totR L i : Nat)) (rwN L i).length := by unfold mixR; rw [if_pos (Nat.lt_succ_self _)]; rfl
      have h1 := (h.1 i hi).1
      rw [e1] at h1
      rw [e2]
      exact h1.remarked hm hex
    · have e1 : mixR k L (j + 1) i = mixR k L j i := by
        unfold mixR
        by_cases hlt : i < j
        · rw [if_pos hlt, if_pos (by omega)]
        · rw [if_neg hlt, if_neg (by omega)]
      rw [e1]
      exact (h.1 i hi).1.other hm (ho i hi e)
  · rw [mixR_length] at e1 e2 ⊢
    have := h.2 i q hi hq hne b off c off' c' (by rw [mixR_length]; exact e1) (by rw [mixR_length]; exact e2)
    rw [mixR_length, mixR_length] at this
    rw [mixR_length]; exact this
theorem RowsOw.rows {B : Nat} {w : World} {v : Value} {L : List (List Int)} (h : RowsOw B w v L) : ∃ (ao : Option Addr) (cap : Nat) (us : Nat → Value), v = .slice ao L.length cap ∧ L.length ≤ cap ∧ RowsF B w us L.length (rwN L) ∧
    (L.length = 0 ∨ ∃ b, ao = some ⟨b, 0, none⟩ ∧ B ≤ b ∧ b < w.heap.size ∧ ∀ i, i < L.length → ∃ a c, us i = .slice a (rwN L i).length c ∧ w.cell? ⟨b, i, none⟩ = some (us i)) := by
  obtain ⟨zs, h1, h2, rfl⟩ := h
  have hl : (zs.map Prod.snd).length = zs.length := List.length_map _
  have eq : ∀ i (hi : i < zs.length), rwN (zs.map Prod.snd) i = zs[i].2 := fun i hi => by rw [rwN_get (by omega)]; simp
  have hus : ∀ i (hi : i < zs.length), (zs.getD i (.slice none 0 0, [])).1 = zs[i].1 := fun i hi => by simp [List.getD, hi]
  have hF : RowsF B w (fun i => (zs.getD i (.slice none 0 0, [])).1) (zs.map Prod.snd).length (rwN (zs.map Prod.snd)) := by
    refine ⟨fun i hi => ?_, fun i j hi hj hne b off c off' c' e1 e2 => ?_⟩
    · have hi' : i < zs.length := by omega
      have hp := h2.1 zs[i] (List.getElem_mem hi')
      dsimp only
      rw [hus i hi', eq i hi']
      exact ⟨hp.1, hp.2.1⟩
    · have hi' : i < zs.length := by omega
      have hj' : j < zs.length := by omega
      dsimp only at e1 e2
      rw [hus i hi'] at e1
      rw [hus j hj'] at e2
      by_cases h0 : (rwN (zs.map Prod.snd) i).length = 0
      · exact Or.inl h0
      · by_cases h3 : (rwN (zs.map Prod.snd) j).length = 0
        · exact Or.inr h3
        · rcases Nat.lt_or_ge i j with hlt | hge
          · have := (List.pairwise_iff_getElem.1 h2.2) i j hi' hj' hlt b off _ c off' _ c' e1 (by omega) e2
            exact Or.inr this
          · have := (List.pairwise_iff_getElem.1 h2.2) j i hj' hi' (by omega) b off' _ c' off _ c e2 (by omega) e1
            exact Or.inl this
  rcases h1.2 with ⟨rfl, h0⟩ | ⟨g, cap, cur, rfl, hB, hg, hk, hm, hs, ht⟩
  · exact ⟨none, 0, _, by rw [h0], by rw [h0]; exact Nat.le_refl _, hF, Or.inl h0⟩
  · refine ⟨_, cap, _, rfl, hk, hF, Or.inr ⟨g, rfl, hB, (Array.getElem?_eq_some_iff.1 hg).1, fun i hi => ?_⟩⟩
    have hi' : i < zs.length := by omega
    have hp := h2.1 zs[i] (List.getElem_mem hi')
    obtain ⟨ao, c, hv, _⟩ := hp.1
    refine ⟨ao, c, ?_, ?_⟩
    · rw [hus i hi', eq i hi', hv]
    · rw [hus i hi']
      have hc : cur[i]? = some zs[i].1 := by
        have h3 : (cur.toList.take ((zs.map Prod.snd).length * 1))[i]? = some zs[i].1 := by rw [ht]; simp [hi']
        rw [List.getElem?_take_of_lt (by omega)] at h3
        rw [← Array.getElem?_toList]; exact h3
      simp [World.cell?, hg, hc]

theorem selfRows (L : List (List Int)) : decide (L = L) = true := decide_eq_true rfl
theorem RowsOw.stir {B l k : Nat} {w w' : World} {v : Value} {L : List (List Int)} (h : RowsOw B w v L) (hs : Stir l k w w') (hk : k ≤ B) : RowsOw B w' v L := by
  obtain ⟨zs, h1, h2, h3⟩ := h
  have hblk : ∀ b, B ≤ b → b < w.heap.size → w'.heap[b]? = w.heap[b]? := fun b hb hl => hs.block b hl (Or.inr (by omega))
  refine ⟨zs, ownsRow_keep h1 (fun b hb hl => hblk b ?_ hl), ⟨fun p hp => ?_, h2.2⟩, h3⟩
  · rcases h1.2 with ⟨rfl, _⟩ | ⟨g, cap, cur, rfl, hB, _⟩
    · simp [Value.ownBlock] at hb
    · simp only [Value.ownBlock, Option.some.injEq] at hb; omega
  · obtain ⟨a1, a2, a3⟩ := h2.1 p hp
    refine ⟨a1.stir hs hk, a2.wide hs.size, fun b off n c e hn => ?_⟩
    obtain ⟨t, hne, cur, f, hh⟩ := a3 b off n c e hn
    refine ⟨t, hne, cur, f, (hblk b ?_ (Array.getElem?_eq_some_iff.1 hh).1).trans hh⟩
    obtain ⟨ao, cap, hv, _, hz⟩ := a1
    rw [hv] at e
    injection e with e1 e2 e3
    rcases hz with hz | ⟨b', off', ha, hlo, _⟩
    · rw [hz] at e2; simp at e2; omega
    · rw [ha] at e1
      injection e1 with e1
      injection e1 with e1
      omega
set_option maxHeartbeats 1000000 in
theorem markIntSS_row (v : Value) (L : List (List Int)) (k : Int) (w : World) (B : Nat) (h : RowsOw B w v L) (hs : SmallRows L) (hB : B ≤ w.heap.size) (h0 : 0 ≤ k) (h1 : k ≤ 1048577) :
    Calls Try.prog 24 #[v, .int .i64 k] w (fun e w' => e = .returned (.int .i64 (k + (totL L : Nat))) ∧ Stir B w.heap.size w w' ∧ RowsIn B w.heap.size w' v (mkdL k L)) := by
  obtain ⟨ao, cap, us, rfl, hcap, hF, hz⟩ := h.rows
  have hT := totR_le hs.2
  obtain ⟨hn, hsl⟩ := hs
  have HT := Lib.hid hT; clear hT
  have HS := Lib.hid hsl; clear hsl
  have HF := Lib.hid hF; clear hF
  have HZ := Lib.hid hz; clear hz h
  have hSt : Hid (∀ j, j ≤ L.length → totR L j ≤ 17592186044416) := fun j hj => Nat.le_trans (HT.out j) (Nat.le_trans (Nat.mul_le_mul_right _ (Nat.le_trans hj hn)) (by decide))
  clear HT
  unfold totL
  obtain ⟨n, hn0⟩ : ∃ n, n = L.length := ⟨_, rfl⟩
  rw [← hn0] at HF HZ hSt hcap hn ⊢
  have HN := Lib.hid hn0; clear hn0
  go_enter Try.func24, Try.ntmps24
  go_wp2_with fail
  go_loopw [1, 5] (fun kv i wr => ∃ j : Nat, j ≤ n ∧ i = .int .i64 j ∧ kv = .int .i64 (k + (totR L j : Nat)) ∧ wr.heap.size = w.heap.size ∧ Hid (Marks B w.heap.size w wr) ∧ Hid (RowsF B wr us n (mixR k L j))) (fun _ i _ => n - (intOf i).toNat)
  case atStart => exact ⟨0, Nat.zero_le _, rfl, by simp [totR], rfl, Marks.refl _ _ _, HF.out⟩
  case round =>
    obtain ⟨j, hj, rfl, rfl, hsz, hm, hrows⟩ := hrel
    by_cases hlt : j < n
    · rcases HZ.out with h | ⟨b, rfl, hlo, hhi, hcell⟩
      · omega
      obtain ⟨a, c, hu, x0⟩ := hcell j hlt
      have s1 := HS.out j
      have t1 := hSt.out j hj
      have hst : totR L (j + 1) = totR L j + (rwN L j).length := rfl
      obtain ⟨lo, hi, q1, q2, q3, hbox, hoth⟩ := hrows.out.span hlt (by rw [hsz]; exact hB)
      have em : mixR k L j j = rwN L j := by unfold mixR; rw [if_neg (Nat.lt_irrefl _)]
      rw [em, hu] at hbox
      have HBX := Lib.hid hbox
      have HO := Lib.hid hoth
      have hu' := Lib.hid hu
      rw [hu] at x0
      have d0 := hm.out.slice _ _ _ _ x0
      have e0 : (0 : Nat) + j = j := Nat.zero_add j
      clear hcell x0 em hbox hoth hu
      generalize hX : (rwN L j).length = X at *
      have HX := Lib.hid hX; clear hX
      go_wp2_with fail
      refine (markIntS_any _ X _ wr lo hi HBX.out s1 (by omega) (by omega)).mono ?_
      rintro e w1 ⟨rfl, hm1, hex1⟩
      have HR := Lib.hid (hrows.out.step hlt hm1 HO.out (fun b off c e i hi => hex1 b off c (by rw [← hu'.out, e, HX.out]) i (by rw [← HX.out]; exact hi)))
      have MM1 := Lib.hid (hm.out.trans (hm1.wide q1 (by omega)))
      have hsz1 : w1.heap.size = w.heap.size := by rw [hm1.size, hsz]
      clear hm1 hex1 d0
      go_wp2_with fail
      go_roundw
      case rel => exact ⟨j + 1, by omega, by go_num, by rw [hst]; simp [Int.add_assoc], hsz1, MM1, HR⟩
      case measure => simp [intOf]; omega
    · have hjj : j = n := by omega
      subst hjj
      go_wp2_with fail
      go_ret
      refine ⟨rfl, hm.out.stir, _, cap, by rw [mkdL_length, ← HN.out], by rw [mkdL_length, ← HN.out]; exact hcap, ?_⟩
      rw [mkdL_length, ← HN.out]
      rcases HZ.out with h | ⟨b, rfl, hlo, hhi, hcell⟩
      · exact Or.inl h
      · refine Or.inr ⟨b, 0, rfl, hlo, hhi, fun i hi => ?_⟩
        obtain ⟨a, c, hu, x0⟩ := hcell i hi
        obtain ⟨r1, r2⟩ := hrows.out.1 i hi
        have em : mixR k L j i = rwN (mkdL k L) i := by rw [mkdL_get (by rw [← HN.out]; exact hi)]; unfold mixR; rw [if_pos hi]
        have el : (rwN (mkdL k L) i).length = (rwN L i).length := by rw [← em, mixR_length]
        rw [em, hu] at r1
        rw [hu, hsz] at r2
        rw [hu] at x0
        refine ⟨a, c, ?_, ?_⟩
        · rw [Nat.zero_add, el]; exact hm.out.slice _ _ _ _ x0
        · rw [el]; exact ⟨r1.at, r2⟩

set_option maxHeartbeats 1000000 in
theorem heldIntSS_any (v : Value) (L : List (List Int)) (k : Int) (w : World) (lo hi : Nat) (hv : RowsIn lo hi w v (mkdL k L)) (hs : SmallRows L) (h0 : 0 ≤ k) (h1 : k ≤ 1048577) :
    Calls Try.prog 25 #[v, .int .i64 k] w (RetV w (.int .i64 (k + (totL L : Nat)))) := by
  obtain ⟨ao, cap, rfl, hcap, hz⟩ := hv
  rw [mkdL_length] at hz hcap ⊢
  have hT := totR_le hs.2
  obtain ⟨hn, hsl⟩ := hs
  have HT := Lib.hid hT; clear hT
  have HS := Lib.hid hsl; clear hsl
  have hSt : Hid (∀ j, j ≤ L.length → totR L j ≤ 17592186044416) := fun j hj => Nat.le_trans (HT.out j) (Nat.le_trans (Nat.mul_le_mul_right _ (Nat.le_trans hj hn)) (by decide))
  clear HT
  have HZ : Hid (L.length = 0 ∨ ∃ b off, ao = some ⟨b, off, none⟩ ∧ ∀ i, i < L.length → ∃ a c, w.cell? ⟨b, off + i, none⟩ = some (.slice a (rwN L i).length c) ∧ IntsAt lo w (.slice a (rwN L i).length c) (upFrom (k + (totR L i : Nat)) (rwN L i).length)) := by
    rcases hz with h | ⟨b, off, ha, _, _, hcell⟩
    · exact Or.inl h
    · refine Or.inr ⟨b, off, ha, fun i hi => ?_⟩
      obtain ⟨a, c, x0, hx⟩ := hcell i hi
      rw [mkdL_get hi] at x0 hx
      unfold mkdR at x0 hx
      rw [upFrom_length] at x0 hx
      exact ⟨a, c, x0, hx.1⟩
  clear hz
  unfold totL
  obtain ⟨n, hn0⟩ : ∃ n, n = L.length := ⟨_, rfl⟩
  rw [← hn0] at HZ hSt hcap hn ⊢
  clear hn0
  go_enter Try.func25, Try.ntmps25
  go_wp2_with fail
  go_loopw [1, 5] (fun kv i wr => ∃ j : Nat, j ≤ n ∧ i = .int .i64 j ∧ kv = .int .i64 (k + (totR L j : Nat)) ∧ Below w.heap.size w wr) (fun _ i _ => n - (intOf i).toNat)
  case atStart => exact ⟨0, Nat.zero_le _, rfl, by simp [totR], Below.refl _ _⟩
  case round =>
    obtain ⟨j, hj, rfl, rfl, hb1⟩ := hrel
    by_cases hlt : j < n
    · rcases HZ.out with h | ⟨b, off, rfl, hcell⟩
      · omega
      obtain ⟨a, c, x0, hx⟩ := hcell j hlt
      have s1 := HS.out j
      have t1 := hSt.out j hj
      have hst : totR L (j + 1) = totR L j + (rwN L j).length := rfl
      have d0 := cell_carry x0 (Carries.of 0 hb1)
      have HX := Lib.hid (hx.keep (Carries.of lo hb1))
      clear hcell x0 hx
      generalize (rwN L j).length = X at *
      have hneg : decide (k + (totR L j : Nat) + (X : Int) < 0) = false := by rw [decide_eq_false_iff_not]; omega
      go_wp2_with fail
      refine (heldIntS_any _ X _ wr lo HX.out s1 (by omega) (by omega)).mono ?_
      rintro e w1 ⟨rfl, hb2⟩
      have hw1 := hb1.trans (hb2.mono hb1.size)
      clear hb2 d0
      go_wp2_with fail
      go_roundw
      case rel => exact ⟨j + 1, by omega, by go_num, by rw [hst]; simp [Int.add_assoc], hw1⟩
      case measure => simp [intOf]; omega
    · have hjj : j = n := by omega
      subst hjj
      go_wp2_with fail
      go_ret
      exact ⟨rfl, hb1⟩

end Go.Proofs.Ytgmnknlnlmcmfaa
