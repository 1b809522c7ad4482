/- WALK: FireSequence of the program. -/
import Derived.Test.YtkkfglolameogaaVSeq
namespace Go.Proofs.Ytkkfglolameogaa
open Go.RowKit

theorem take_pad {s : ByteArray} {k : Nat} (h : k = s.size) : bstr ((pad (bytes s)).take k) = s := by
  subst h
  unfold pad
  rw [← bytes_length, List.take_left']
  · exact bstr_bytes s
  · rfl

/-- behind a region: a block holds a marking; another does still; two cells are as they were -/
def TwoArrB (w : World) (c0 c1 : Addr) (y0 y1 : Value) (b9 : Nat) (xs ys : List UInt8) (mk : Value → Act) (e : Exit) (a' : Act) (w' : World) : Prop :=
  e = .normal ∧ ∃ b : Nat, a' = mk (.pointer (some ⟨b, 0, none⟩)) ∧ ArrAt w' b xs ∧ ArrAt w' b9 ys ∧ Below w.heap.size w w' ∧ w'.cell? c0 = some y0 ∧ w'.cell? c1 = some y1

set_option maxRecDepth 100000 in
set_option maxHeartbeats 4000000 in
theorem FireSequence_any (v : Value) (n : NetD) (s : ByteArray) (vl : Value) (l : List Int) (w : World) (lo lo' : Nat) (hv : NetAt lo w v n) (hs : SmallTrs n.ts) (hsz : s.size ≤ 1048576) (hl : IntsAt lo' w vl l) (hll : l.length ≤ 1048576) :
    Calls Try.prog 41 #[v, .string s, vl] w (RetV w (.tuple #[.string (seqR n s l).1, .int .i64 ((seqR n s l).2.1 : Nat), .bool (seqR n s l).2.2])) := by
  generalize hR : seqR n s l = R
  unfold seqR at hR
  have HR := Lib.hid hR; clear hR
  obtain ⟨rs, rk, rb⟩ := R
  simp only
  have hv' := hv
  obtain ⟨hp0, hp1, q, rfl, ht⟩ := hv'
  obtain ⟨ao, cap, rfl, hc, hz⟩ := ht
  obtain ⟨p, hp⟩ : ∃ p, p = n.places := ⟨_, rfl⟩
  obtain ⟨ts, hts⟩ : ∃ ts, ts = n.ts := ⟨_, rfl⟩
  have hs0 := hs
  rw [← hp, ← hts] at hv ⊢
  rw [← hts] at hs hz hc
  have HPl := Lib.hid hp; clear hp hp0 hp1
  have HT := Lib.hid hts; clear hts
  have HV := Lib.hid hv; clear hv
  have HS := Lib.hid hs
  have hmm := hs.1
  have HS0 := Lib.hid hs0; clear hs0 hs
  have HFT := Lib.hid hz; clear hz
  obtain ⟨al, cl, rfl, hcl, hzl⟩ := hl
  have HF := Lib.hid hzl; clear hzl
  have u1 := Try.underlying118
  go_enter Try.func41, Try.ntmps41
  go_wp2_with fail
  refine (IsValidMarking_any _ n s _ lo (HV.out.keep ?_) HS0.out hsz).mono ?_
  · (repeat' (first | (with_reducible exact Carries.refl _ _) | (with_reducible assumption) | (with_reducible refine Carries.alloc ?_ _) | (with_reducible refine Carries.drew ?_) | (with_reducible refine Carries.drewN ?_ _) | (with_reducible refine Carries.set ?_ ?_ _) | go_size))
  rintro e w1 ⟨rfl, hb⟩
  have hw1 : Below w.heap.size w w1 := by
    refine Below.trans ?_ (hb.mono ?_)
    · (repeat' (first | (with_reducible exact Below.refl _ _) | (with_reducible assumption) | (with_reducible refine Below.alloc ?_ ?_ _) | (with_reducible refine Below.drew ?_) | (with_reducible refine below_drewN ?_ _) | (with_reducible refine Below.setCell ?_ ?_ _) | go_size))
    · simp
  have a0 : w1.cell? ⟨w.heap.size, 0, none⟩ = some (.int .i64 p) := cell_carry (by simp) (Carries.of 0 hb)
  have a1 : w1.cell? ⟨w.heap.size, 1, none⟩ = some (.slice ao ts.length cap) := cell_carry (by simp) (Carries.of 0 hb)
  clear hb
  cases hg : (goodN n && markB n s) with
  | false =>
    have hcf : seqOk n s l = false := by unfold seqOk; rw [← Bool.and_assoc, hg]; rfl
    have k := HR.out
    rw [hcf, if_neg (by simp)] at k
    simp only [Prod.mk.injEq] at k
    obtain ⟨rfl, rfl, rfl⟩ := k
    clear hg hcf
    go_wp2_with fail
    go_ret3
    exact ⟨rfl, hw1⟩
  | true =>
  have hgm : goodN n = true ∧ markB n s = true := by simpa using hg
  have HG := Lib.hid hgm.1
  have HM := Lib.hid hgm.2
  clear hg hgm
  by_cases h200 : l.length ≤ 200
  case neg =>
    have hcf : seqOk n s l = false := by unfold seqOk; rw [HG.out, HM.out, decide_eq_false h200]; rfl
    have k := HR.out
    rw [hcf, if_neg (by simp)] at k
    simp only [Prod.mk.injEq] at k
    obtain ⟨rfl, rfl, rfl⟩ := k
    clear hcf
    go_wp2_with fail
    go_ret3
    exact ⟨rfl, hw1⟩
  have hcf : seqOk n s l = true := by unfold seqOk; rw [HG.out, HM.out, decide_eq_true h200]; rfl
  have k := HR.out
  rw [hcf, if_pos rfl] at k
  have HK := Lib.hid k
  clear hcf k HR
  have hsp : s.size ≤ 30 := mark_small HG.out HM.out
  have d200 : decide ((200 : Int) < (l.length : Int)) = false := by simp; omega
  have HPS : Hid (∀ sk : ByteArray, markB n sk = true → p = (sk.size : Int)) := fun sk hk => by rw [HPl.out]; exact (mark_size hk).symm
  go_wp2_with fail
  refine (readMarking_any s _ hsp).mono ?_
  rintro e w2 ⟨rfl, hb⟩
  have hw2 : Below w.heap.size w w2 := hw1.trans (hb.mono hw1.size)
  have a2 := cell_carry a0 (Carries.of 0 hb)
  have a3 := cell_carry a1 (Carries.of 0 hb)
  clear hb a0 a1
  have lp0 : (pad (bytes s)).length = 30 := pad_length (by rw [bytes_length]; exact hsp)
  have HN := Lib.hid (ArrAt.new w2 zeros_length)
  have hS : Hid (ArrAt ((w2.alloc (.cells (arr zeros).toArray 118)).setRow w2.heap.size (arr (pad (bytes s))).toArray) w2.heap.size (pad (bytes s))) := ⟨setRow_heap _ _ _ _ _ _ HN.out.1, lp0⟩
  have hbS : Hid (Below w2.heap.size w2 ((w2.alloc (.cells (arr zeros).toArray 118)).setRow w2.heap.size (arr (pad (bytes s))).toArray)) := below_setRow ((Below.refl _ _).alloc (Nat.le_refl _) _) (Nat.le_refl _) _
  go_wp2_with (refine wpList_store_row rfl 118 _ _ rfl w2.heap.size _ rfl rfl _ _ HN.out.1 (infoArr lp0) (by simp [arr_length, lp0, zeros_length]) (arr_all _) ?_)
  change Code.wp _ _ _ _ ((w2.alloc (.cells (arr zeros).toArray 118)).setRow w2.heap.size (arr (pad (bytes s))).toArray)
  generalize (w2.alloc (.cells (arr zeros).toArray 118)).setRow w2.heap.size (arr (pad (bytes s))).toArray = W at hS hbS ⊢
  have hwW : Below w.heap.size w W := hw2.trans (hbS.out.mono hw2.size)
  have b0 := cell_carry a2 (Carries.of 0 hbS.out)
  have b1 := cell_carry a3 (Carries.of 0 hbS.out)
  have hge : w.heap.size ≤ w2.heap.size := hw2.size
  obtain ⟨b9, hb9⟩ : ∃ b9, b9 = w2.heap.size := ⟨_, rfl⟩
  rw [← hb9] at hS hge ⊢
  have hne : ¬ w.heap.size = b9 := by have := cell_old a2; simp at this; omega
  clear HN hbS a2 a3 hw1 hw2 hb9
  go_loopw [27] (fun i wr => ∃ (k : Nat) (sk : ByteArray), k ≤ l.length ∧ i = .int .i64 k ∧ Hid (runSeq n (l.drop k) sk k = (rs, rk, rb)) ∧ Hid (markB n sk = true) ∧ Hid (ArrAt wr b9 (pad (bytes sk))) ∧ Below w.heap.size w wr ∧ wr.cell? ⟨w.heap.size, 0, none⟩ = some (.int .i64 p) ∧ wr.cell? ⟨w.heap.size, 1, none⟩ = some (.slice ao ts.length cap)) (fun i _ => l.length - (intOf i).toNat)
  case atStart => exact ⟨0, s, Nat.zero_le _, rfl, HK.out, HM, hS.out, hwW, b0, b1⟩
  case round =>
    obtain ⟨k, sk, hk, rfl, hrun, hmk, harr, hb1, d0, d1⟩ := hrel
    clear b0 b1 hwW hS
    have hsk : sk.size ≤ 30 := mark_small HG.out hmk.out
    have lp : (pad (bytes sk)).length = 30 := pad_length (by rw [bytes_length]; exact hsk)
    have hps : Hid (p = (sk.size : Int)) := HPS.out sk hmk.out
    by_cases hlt : k < l.length
    · rcases HF.out with rfl | ⟨b, off, rfl, hlo', hcell⟩
      · simp at hlt
      have c1 := Carries.of lo' hb1 _ _ hlo' (hcell k hlt)
      obtain ⟨y, hy⟩ : ∃ y, y = l.getD k 0 := ⟨_, rfl⟩
      rw [← hy] at c1
      have HY := Lib.hid hy; clear hy hcell
      go_wp2_with fail
      refine (isTransition_in _ n _ _ lo (HV.out.keep (Carries.of lo hb1)) HS0.out).mono ?_
      rintro e w3 ⟨rfl, hb⟩
      have hw3 : Below w.heap.size w w3 := hb1.trans (hb.mono hb1.size)
      have e0 := cell_carry d0 (Carries.of 0 hb)
      have e1 := cell_carry d1 (Carries.of 0 hb)
      have HA := Lib.hid (harr.out.after hb)
      clear hb d0 d1 c1 harr
      cases hg : inT n y with
      | false =>
        have hno : fireOk n sk y = false := (fire_no (by unfold canB; rw [HG.out, hmk.out, hg]; rfl)).2
        have h1 := hrun.out
        rw [run_stop hlt (by rw [← HY.out]; exact hno)] at h1
        simp only [Prod.mk.injEq] at h1
        obtain ⟨rfl, rfl, rfl⟩ := h1
        clear hg hno
        go_wp2_with (refine wpList_load_row rfl 118 _ rfl b9 rfl _ _ _ _ HA.out.1 u1 rfl (infoArr lp) ?_)
        rw [hps.out]
        refine (writeMarking_any sk.size _ _ lp _ hsk _ _ _ rfl).mono ?_
        rintro e w4 ⟨rfl, hb⟩
        rw [take_pad rfl]
        have hw4 : Below w.heap.size w w4 := hw3.trans (hb.mono hw3.size)
        clear hb e0 e1
        go_wp2_with fail
        go_ret3
        exact ⟨rfl, hw4⟩
      | true =>
        have ht3 : 0 ≤ y ∧ y < ts.length := by rw [HT.out]; exact of_decide_eq_true hg
        obtain ⟨f1, f2, f3⟩ := fire_parts HG.out hmk.out hg
        obtain ⟨ht0, ht1⟩ := ht3
        obtain ⟨tn, rfl⟩ := Int.eq_ofNat_of_zero_le ht0
        rcases HFT.out with hz | ⟨tb, toff, rfl, hlo, htcell⟩
        · rw [hz] at ht1; simp at ht1; omega
        have ht2 : tn < ts.length := by omega
        obtain ⟨x0, x1, q0, q1, hx⟩ := htcell tn ht2
        obtain ⟨X, hX⟩ : ∃ X, X = ts.getD tn ([], []) := ⟨_, rfl⟩
        have hXt : trOf n (tn : Int) = X := by rw [hX, HT.out]; unfold trOf; rw [Int.toNat_natCast]
        have sx := HS.out.2 tn ht2
        have ix := goodN_in HG.out (i := tn) (by rw [← HT.out]; exact ht2)
        rw [← HT.out] at ix
        rw [← hX] at hx sx ix
        rw [hXt] at f1 f2
        obtain ⟨s1, s2⟩ := sx
        have IX := Lib.hid ix; clear ix
        have HXe := Lib.hid hX
        clear hX hXt htcell hg
        obtain ⟨A, hA⟩ : ∃ A, A = ftA (pad (bytes sk)) X := ⟨_, rfl⟩
        have lA : A.length = 30 := by rw [hA]; exact ftA_length lp
        rw [← hA] at f2
        generalize hO : fireOk n sk (tn : Int) = O at f1 f2 f3
        have HO := Lib.hid hO; clear hO
        have HAA := Lib.hid hA; clear hA
        have H1 := Lib.hid f1; clear f1
        have H2 := Lib.hid f2; clear f2
        clear f3
        obtain ⟨⟨xa0, xk0, rfl, _, _⟩, ⟨xa1, xk1, rfl, _, _⟩⟩ := id hx
        have HX := Lib.hid (hx.keep (Carries.of lo hw3)); clear hx
        have q2 := Carries.of lo hw3 _ _ hlo q0
        have q3 := Carries.of lo hw3 _ _ hlo q1
        clear q0 q1
        have g2 : (Try.prog.info? 118).map (·.size) = some (arr (pad (bytes sk))).length := by rw [arr_length, lp]; exact Try.infoArr
        obtain ⟨PD, hPD⟩ : ∃ PD, PD = pad (bytes sk) := ⟨_, rfl⟩
        rw [← hPD] at g2 HA lp H1 HAA
        have HPD := Lib.hid hPD; clear hPD
        go_wp2_with fail
        refine Code.wp_mono (Q := TwoArrB w3 ⟨w.heap.size, 0, none⟩ ⟨w.heap.size, 1, none⟩ (.int .i64 p) (.slice (some ⟨tb, toff, none⟩) ts.length cap) b9 A PD (fun P => { tmps := #[.agg #[.int .i64 p, .slice (some ⟨tb, toff, none⟩) ts.length cap], .string s, .slice (some ⟨b, off, none⟩) l.length cl, .pointer (some ⟨w.heap.size, 0, none⟩), undef, undef, u6, u7, u8, .pointer (some ⟨b9, 0, none⟩), .int .i64 k, .int .i64 tn, P, .bool O, .agg #[.int .i64 p, .slice (some ⟨tb, toff, none⟩) ts.length cap], .string s, .bool true, .bool false, .bool false, .slice (some ⟨b, off, none⟩) l.length cl, .int .i64 l.length, .bool false, .bool false, .string s, .agg (arr (pad (bytes s))).toArray, .slice (some ⟨b, off, none⟩) l.length cl, .int .i64 l.length, .int .i64 k, .bool true, .int .i64 k, .pointer (some ⟨b, off + k, none⟩), .int .i64 tn, .agg #[.int .i64 p, .slice (some ⟨tb, toff, none⟩) ts.length cap], .int .i64 tn, .bool true, .bool false, u36, u37, u38, u39, .tuple #[.agg (arr A).toArray, .bool O], .agg (arr PD).toArray, .pointer (some ⟨w.heap.size, 1, none⟩), .slice (some ⟨tb, toff, none⟩) ts.length cap, .int .i64 tn, .pointer (some ⟨tb, toff + tn * 2, none⟩), .agg #[.slice xa0 X.1.length xk0, .slice xa1 X.2.length xk1], .tuple #[.agg (arr A).toArray, .bool O], .agg (arr A).toArray, .bool O, u50, u51, u52, u53, u54, u55, u56, u57, undef, undef, undef, undef, undef], defers := [] })) ?_ ?_
        rotate_left 1
        · refine wp_region_held_drew (S := fun w' => w'.cell? ⟨w.heap.size, 0, none⟩ = some (.int .i64 p) ∧ w'.cell? ⟨w.heap.size, 1, none⟩ = some (.slice (some ⟨tb, toff, none⟩) ts.length cap) ∧ w'.cell? ⟨tb, toff + tn * 2, none⟩ = some (.slice xa0 X.1.length xk0) ∧ w'.cell? ⟨tb, toff + tn * 2 + 1, none⟩ = some (.slice xa1 X.2.length xk1) ∧ w'.rangeAt b9 0 (arr PD)) (by kernel_rfl) ⟨e0, e1, q2, q3, HA.out.range⟩ (fun hHeld => ?_)
          have bel0 : Below w3.heap.size w3 w3.drew := (Below.refl _ _).drew
          have k0_0 : w3.drew.cell? ⟨w.heap.size, 0, none⟩ = some (.int .i64 p) := e0
          have k1_0 : w3.drew.cell? ⟨w.heap.size, 1, none⟩ = some (.slice (some ⟨tb, toff, none⟩) ts.length cap) := e1
          have k2_0 : w3.drew.cell? ⟨tb, toff + tn * 2, none⟩ = some (.slice xa0 X.1.length xk0) := q2
          have k3_0 : w3.drew.cell? ⟨tb, toff + tn * 2 + 1, none⟩ = some (.slice xa1 X.2.length xk1) := q3
          have k9_0 : ArrAt w3.drew b9 PD := HA.out
          generalize w3.drew = W0 at bel0 k0_0 k1_0 k2_0 k3_0 k9_0 hHeld ⊢
          refine tk0 (by kernel_rfl) (by kernel_rfl) (by kernel_rfl) (by first | exact fun _ _ _ h => h | exact fun _ _ _ h => absurd h.1 (by simp)) (yieldsIf_load_mid (by rfl) _ _ rfl _ _ rfl _ _ (fun w hS => hS.2.2.2.2) u1 rfl g2) (by assumption) ?_
          try simp only [Act.put, List.setIfInBounds_toArray, List.set_cons_zero, List.set_cons_succ]
          refine tk1 (v := ?_) (by kernel_rfl) (by kernel_rfl) (by kernel_rfl) (by first | exact fun _ _ _ h => h | exact fun _ _ _ h => absurd h.1 (by simp)) (Or.inl ⟨by rfl, ?_⟩) (by assumption) ?_
          rotate_left 1
          focus (intro wx hSw; (try dsimp only at hSw); go_simp; try (with_reducible rfl))
          try simp only [Act.put, List.setIfInBounds_toArray, List.set_cons_zero, List.set_cons_succ]
          refine tk2 (v := ?_) (by kernel_rfl) (by kernel_rfl) (by kernel_rfl) (by first | exact fun _ _ _ h => h | exact fun _ _ _ h => absurd h.1 (by simp)) (Or.inl ⟨by rfl, ?_⟩) (by assumption) ?_
          rotate_left 1
          focus (intro wx hSw; (try dsimp only at hSw); go_simp; try (with_reducible rfl))
          try simp only [Act.put, List.setIfInBounds_toArray, List.set_cons_zero, List.set_cons_succ]
          refine tk3 (v := ?_) (by kernel_rfl) (by kernel_rfl) (by kernel_rfl) (by first | exact fun _ _ _ h => h | exact fun _ _ _ h => absurd h.1 (by simp)) (Or.inl ⟨by rfl, ?_⟩) (by assumption) ?_
          rotate_left 1
          focus (intro wx hSw; (try dsimp only at hSw); go_simp; try (with_reducible rfl))
          try simp only [Act.put, List.setIfInBounds_toArray, List.set_cons_zero, List.set_cons_succ]
          refine tk4 (v := ?_) (by kernel_rfl) (by kernel_rfl) (by kernel_rfl) (by first | exact fun _ _ _ h => h | exact fun _ _ _ h => absurd h.1 (by simp)) (Or.inl ⟨by rfl, ?_⟩) (by assumption) ?_
          rotate_left 1
          focus (intro wx hSw; (try dsimp only at hSw); go_simp; try (with_reducible rfl))
          try simp only [Act.put, List.setIfInBounds_toArray, List.set_cons_zero, List.set_cons_succ]
          refine tk5 (v := ?_) (by kernel_rfl) (by kernel_rfl) (by kernel_rfl) (by first | exact fun _ _ _ h => h | exact fun _ _ _ h => absurd h.1 (by simp)) (Or.inl ⟨by rfl, ?_⟩) (by assumption) ?_
          rotate_left 1
          focus (intro wx hSw; (try dsimp only at hSw); go_simp; try (with_reducible rfl))
          try simp only [Act.put, List.setIfInBounds_toArray, List.set_cons_zero, List.set_cons_succ]
          refine wpAnyH_ready (rs := [6, 10]) (by kernel_rfl) (by simp) ?_
          refine ar6 (fun K hK => ?_) ?_
          ·
            go_simp
            refine (fireTransition_any PD lp _ _ X W0 lo (HX.out.keep (Carries.of lo bel0)) s1 s2 IX.out.1 IX.out.2).mono ?_
            rintro e W1 ⟨rfl, hb1⟩
            have bel1 : Below w3.heap.size w3 W1 := bel0.trans (hb1.mono bel0.size)
            have k0_1 := cell_carry k0_0 (Carries.of 0 hb1)
            have k1_1 := cell_carry k1_0 (Carries.of 0 hb1)
            have k2_1 := cell_carry k2_0 (Carries.of 0 hb1)
            have k3_1 := cell_carry k3_0 (Carries.of 0 hb1)
            have k9_1 := ArrAt.after k9_0 hb1
            rw [← HAA.out, H1.out]
            refine hK.out _ _ ⟨k0_1, k1_1, k2_1, k3_1, k9_1.range⟩ (fun hHeld => ?_)
            clear hK K
            try simp only [Act.put, List.setIfInBounds_toArray, List.set_cons_zero, List.set_cons_succ]
            refine tk7 (v := ?_) (by kernel_rfl) (by kernel_rfl) (by kernel_rfl) (by first | exact fun _ _ _ h => h | exact fun _ _ _ h => absurd h.1 (by simp)) (Or.inl ⟨by rfl, ?_⟩) (by assumption) ?_
            rotate_left 1
            focus (intro wx hSw; (try dsimp only at hSw); go_simp; try (with_reducible rfl))
            try simp only [Act.put, List.setIfInBounds_toArray, List.set_cons_zero, List.set_cons_succ]
            refine tk8 (v := ?_) (by kernel_rfl) (by kernel_rfl) (by kernel_rfl) (by first | exact fun _ _ _ h => h | exact fun _ _ _ h => absurd h.1 (by simp)) (Or.inl ⟨by rfl, ?_⟩) (by assumption) ?_
            rotate_left 1
            focus (intro wx hSw; (try dsimp only at hSw); go_simp; try (with_reducible rfl))
            try simp only [Act.put, List.setIfInBounds_toArray, List.set_cons_zero, List.set_cons_succ]
            refine tk9 (v := ?_) (by kernel_rfl) (by kernel_rfl) (by kernel_rfl) (by first | exact fun _ _ _ h => h | exact fun _ _ _ h => absurd h.1 (by simp)) (Or.inl ⟨by rfl, ?_⟩) (by assumption) ?_
            rotate_left 1
            focus (intro wx hSw; (try dsimp only at hSw); go_simp; try (with_reducible rfl))
            try simp only [Act.put, List.setIfInBounds_toArray, List.set_cons_zero, List.set_cons_succ]
            refine rd10 (by kernel_rfl) (fun K hK => ?_)
            go_simp
            have hb2 : Below W1.heap.size W1 (W1.alloc (.cells (arr zeros).toArray 118)) := (Below.refl _ _).alloc (Nat.le_refl _) _
            have new2 := ArrAt.new W1 zeros_length
            change K _ (W1.alloc (.cells (arr zeros).toArray 118))
            generalize W1.alloc (.cells (arr zeros).toArray 118) = W2 at hb2 new2 ⊢
            have bel2 : Below w3.heap.size w3 W2 := bel1.trans (hb2.mono bel1.size)
            have k0_2 := cell_carry k0_1 (Carries.of 0 hb2)
            have k1_2 := cell_carry k1_1 (Carries.of 0 hb2)
            have k2_2 := cell_carry k2_1 (Carries.of 0 hb2)
            have k3_2 := cell_carry k3_1 (Carries.of 0 hb2)
            have k9_2 := ArrAt.after k9_1 hb2
            have bge2_p12 : w3.heap.size ≤ W1.heap.size := bel1.size
            refine hK.out _ _ ⟨k0_2, k1_2, k2_2, k3_2, k9_2.range⟩ (fun hHeld => ?_)
            clear hK K
            try simp only [Act.put, List.setIfInBounds_toArray, List.set_cons_zero, List.set_cons_succ]
            refine rd11 (by kernel_rfl) (fun K hK => ?_)
            rw [if_pos (by rfl)]
            refine wp_store_row 118 _ _ rfl W1.heap.size _ rfl rfl _ _ new2.1 (infoArr lA) (by simp [arr_length, lA, zeros_length]) (arr_all _) ?_
            have new3 : ArrAt (W2.setRow W1.heap.size (arr A).toArray) W1.heap.size A := ⟨setRow_heap _ _ _ _ _ _ new2.1, lA⟩
            have k0_3 : (W2.setRow W1.heap.size (arr A).toArray).cell? ⟨w.heap.size, 0, none⟩ = some (.int .i64 p) := (World.cell?_of_block (setRow_other _ _ _ _ (by have := bge2_p12; have := cell_old e0; simp at this ⊢; omega))).trans k0_2
            have k1_3 : (W2.setRow W1.heap.size (arr A).toArray).cell? ⟨w.heap.size, 1, none⟩ = some (.slice (some ⟨tb, toff, none⟩) ts.length cap) := (World.cell?_of_block (setRow_other _ _ _ _ (by have := bge2_p12; have := cell_old e1; simp at this ⊢; omega))).trans k1_2
            have k2_3 : (W2.setRow W1.heap.size (arr A).toArray).cell? ⟨tb, toff + tn * 2, none⟩ = some (.slice xa0 X.1.length xk0) := (World.cell?_of_block (setRow_other _ _ _ _ (by have := bge2_p12; have := cell_old q2; simp at this ⊢; omega))).trans k2_2
            have k3_3 : (W2.setRow W1.heap.size (arr A).toArray).cell? ⟨tb, toff + tn * 2 + 1, none⟩ = some (.slice xa1 X.2.length xk1) := (World.cell?_of_block (setRow_other _ _ _ _ (by have := bge2_p12; have := cell_old q3; simp at this ⊢; omega))).trans k3_2
            have k9_3 : ArrAt (W2.setRow W1.heap.size (arr A).toArray) b9 PD := ⟨(setRow_other _ _ _ _ (by have := bge2_p12; have := HA.out.lt; simp at this ⊢; omega)).trans k9_2.1, k9_2.2⟩
            have bel3 : Below w3.heap.size w3 (W2.setRow W1.heap.size (arr A).toArray) := below_setRow bel2 bge2_p12 _
            generalize W2.setRow W1.heap.size (arr A).toArray = W3 at *
            refine hK.out _ _ ⟨k0_3, k1_3, k2_3, k3_3, k9_3.range⟩ (fun hHeld => ?_)
            clear hK K
            try simp only [Act.put, List.setIfInBounds_toArray, List.set_cons_zero, List.set_cons_succ]
            refine tk12 (v := ?_) (by kernel_rfl) (by kernel_rfl) (by kernel_rfl) (by first | exact fun _ _ _ h => h | exact fun _ _ _ h => absurd h.1 (by simp)) (Or.inl ⟨by rfl, ?_⟩) (by assumption) ?_
            rotate_left 1
            focus (intro wx hSw; (try dsimp only at hSw); go_simp; try (with_reducible rfl))
            try simp only [Act.put, List.setIfInBounds_toArray, List.set_cons_zero, List.set_cons_succ]
            refine wpAnyH_done (by kernel_rfl) ?_ _
            exact ⟨rfl, _, rfl, new3, k9_3, bel3, k0_3, k1_3⟩
          refine ar10 (fun K hK => ?_) ?_
          ·
            go_simp
            have hb4 : Below W0.heap.size W0 (W0.alloc (.cells (arr zeros).toArray 118)) := (Below.refl _ _).alloc (Nat.le_refl _) _
            have new4 := ArrAt.new W0 zeros_length
            change K _ (W0.alloc (.cells (arr zeros).toArray 118))
            generalize W0.alloc (.cells (arr zeros).toArray 118) = W4 at hb4 new4 ⊢
            have bel4 : Below w3.heap.size w3 W4 := bel0.trans (hb4.mono bel0.size)
            have k0_4 := cell_carry k0_0 (Carries.of 0 hb4)
            have k1_4 := cell_carry k1_0 (Carries.of 0 hb4)
            have k2_4 := cell_carry k2_0 (Carries.of 0 hb4)
            have k3_4 := cell_carry k3_0 (Carries.of 0 hb4)
            have k9_4 := ArrAt.after k9_0 hb4
            have bge4_p12 : w3.heap.size ≤ W0.heap.size := bel0.size
            refine hK.out _ _ ⟨k0_4, k1_4, k2_4, k3_4, k9_4.range⟩ (fun hHeld => ?_)
            clear hK K
            try simp only [Act.put, List.setIfInBounds_toArray, List.set_cons_zero, List.set_cons_succ]
            refine rd6 (by kernel_rfl) (fun K hK => ?_)
            go_simp
            refine (fireTransition_any PD lp _ _ X W4 lo (HX.out.keep (Carries.of lo bel4)) s1 s2 IX.out.1 IX.out.2).mono ?_
            rintro e W5 ⟨rfl, hb5⟩
            have bel5 : Below w3.heap.size w3 W5 := bel4.trans (hb5.mono bel4.size)
            have k0_5 := cell_carry k0_4 (Carries.of 0 hb5)
            have k1_5 := cell_carry k1_4 (Carries.of 0 hb5)
            have k2_5 := cell_carry k2_4 (Carries.of 0 hb5)
            have k3_5 := cell_carry k3_4 (Carries.of 0 hb5)
            have k9_5 := ArrAt.after k9_4 hb5
            have p12_5 := ArrAt.after new4 hb5
            rw [← HAA.out, H1.out]
            refine hK.out _ _ ⟨k0_5, k1_5, k2_5, k3_5, k9_5.range⟩ (fun hHeld => ?_)
            clear hK K
            try simp only [Act.put, List.setIfInBounds_toArray, List.set_cons_zero, List.set_cons_succ]
            refine tk7 (v := ?_) (by kernel_rfl) (by kernel_rfl) (by kernel_rfl) (by first | exact fun _ _ _ h => h | exact fun _ _ _ h => absurd h.1 (by simp)) (Or.inl ⟨by rfl, ?_⟩) (by assumption) ?_
            rotate_left 1
            focus (intro wx hSw; (try dsimp only at hSw); go_simp; try (with_reducible rfl))
            try simp only [Act.put, List.setIfInBounds_toArray, List.set_cons_zero, List.set_cons_succ]
            refine tk8 (v := ?_) (by kernel_rfl) (by kernel_rfl) (by kernel_rfl) (by first | exact fun _ _ _ h => h | exact fun _ _ _ h => absurd h.1 (by simp)) (Or.inl ⟨by rfl, ?_⟩) (by assumption) ?_
            rotate_left 1
            focus (intro wx hSw; (try dsimp only at hSw); go_simp; try (with_reducible rfl))
            try simp only [Act.put, List.setIfInBounds_toArray, List.set_cons_zero, List.set_cons_succ]
            refine tk9 (v := ?_) (by kernel_rfl) (by kernel_rfl) (by kernel_rfl) (by first | exact fun _ _ _ h => h | exact fun _ _ _ h => absurd h.1 (by simp)) (Or.inl ⟨by rfl, ?_⟩) (by assumption) ?_
            rotate_left 1
            focus (intro wx hSw; (try dsimp only at hSw); go_simp; try (with_reducible rfl))
            try simp only [Act.put, List.setIfInBounds_toArray, List.set_cons_zero, List.set_cons_succ]
            refine rd11 (by kernel_rfl) (fun K hK => ?_)
            rw [if_pos (by rfl)]
            refine wp_store_row 118 _ _ rfl W0.heap.size _ rfl rfl _ _ p12_5.1 (infoArr lA) (by simp [arr_length, lA, zeros_length]) (arr_all _) ?_
            have new6 : ArrAt (W5.setRow W0.heap.size (arr A).toArray) W0.heap.size A := ⟨setRow_heap _ _ _ _ _ _ p12_5.1, lA⟩
            have k0_6 : (W5.setRow W0.heap.size (arr A).toArray).cell? ⟨w.heap.size, 0, none⟩ = some (.int .i64 p) := (World.cell?_of_block (setRow_other _ _ _ _ (by have := bge4_p12; have := cell_old e0; simp at this ⊢; omega))).trans k0_5
            have k1_6 : (W5.setRow W0.heap.size (arr A).toArray).cell? ⟨w.heap.size, 1, none⟩ = some (.slice (some ⟨tb, toff, none⟩) ts.length cap) := (World.cell?_of_block (setRow_other _ _ _ _ (by have := bge4_p12; have := cell_old e1; simp at this ⊢; omega))).trans k1_5
            have k2_6 : (W5.setRow W0.heap.size (arr A).toArray).cell? ⟨tb, toff + tn * 2, none⟩ = some (.slice xa0 X.1.length xk0) := (World.cell?_of_block (setRow_other _ _ _ _ (by have := bge4_p12; have := cell_old q2; simp at this ⊢; omega))).trans k2_5
            have k3_6 : (W5.setRow W0.heap.size (arr A).toArray).cell? ⟨tb, toff + tn * 2 + 1, none⟩ = some (.slice xa1 X.2.length xk1) := (World.cell?_of_block (setRow_other _ _ _ _ (by have := bge4_p12; have := cell_old q3; simp at this ⊢; omega))).trans k3_5
            have k9_6 : ArrAt (W5.setRow W0.heap.size (arr A).toArray) b9 PD := ⟨(setRow_other _ _ _ _ (by have := bge4_p12; have := HA.out.lt; simp at this ⊢; omega)).trans k9_5.1, k9_5.2⟩
            have bel6 : Below w3.heap.size w3 (W5.setRow W0.heap.size (arr A).toArray) := below_setRow bel5 bge4_p12 _
            generalize W5.setRow W0.heap.size (arr A).toArray = W6 at *
            refine hK.out _ _ ⟨k0_6, k1_6, k2_6, k3_6, k9_6.range⟩ (fun hHeld => ?_)
            clear hK K
            try simp only [Act.put, List.setIfInBounds_toArray, List.set_cons_zero, List.set_cons_succ]
            refine tk12 (v := ?_) (by kernel_rfl) (by kernel_rfl) (by kernel_rfl) (by first | exact fun _ _ _ h => h | exact fun _ _ _ h => absurd h.1 (by simp)) (Or.inl ⟨by rfl, ?_⟩) (by assumption) ?_
            rotate_left 1
            focus (intro wx hSw; (try dsimp only at hSw); go_simp; try (with_reducible rfl))
            try simp only [Act.put, List.setIfInBounds_toArray, List.set_cons_zero, List.set_cons_succ]
            refine wpAnyH_done (by kernel_rfl) ?_ _
            exact ⟨rfl, _, rfl, new6, k9_6, bel6, k0_6, k1_6⟩
          exact AllReadyH.nil
        rintro e a' wz ⟨rfl, b12, rfl, hT, hT9, hb2, r0, r1⟩
        have hw5 : Below w.heap.size w wz := hw3.trans (hb2.mono hw3.size)
        have HTr := Lib.hid hT; clear hT
        have HT9 := Lib.hid hT9; clear hT9
        clear e0 e1 q2 q3 hb2 HA
        cases O with
        | false =>
          have h1 := hrun.out
          rw [run_stop hlt (by rw [← HY.out]; exact HO.out)] at h1
          simp only [Prod.mk.injEq] at h1
          obtain ⟨rfl, rfl, rfl⟩ := h1
          go_wp2_with (refine wpList_load_row rfl 118 _ rfl b9 rfl _ _ _ _ HT9.out.1 u1 rfl (infoArr lp) ?_)
          rw [hps.out]
          refine (writeMarking_any sk.size _ PD lp _ hsk _ _ _ rfl).mono ?_
          rintro e w6 ⟨rfl, hb⟩
          rw [HPD.out, take_pad rfl]
          have hw6 : Below w.heap.size w w6 := hw5.trans (hb.mono hw5.size)
          clear hb r0 r1
          go_wp2_with fail
          go_ret3
          exact ⟨rfl, hw6⟩
        | true =>
          have h1 := hrun.out
          rw [run_step hlt (by rw [← HY.out]; exact HO.out), ← HY.out] at h1
          have h2 := Lib.hid (fired_mark HO.out)
          have hF := Lib.hid (H2.out rfl)
          have hlen : Hid ((fireS n sk (tn : Int)).length = sk.size) := by
            have hm1 := mark_size h2.out
            have hm2 := mark_size hmk.out
            rw [bstr_size] at hm1
            show _ = _
            omega
          have hAe : Hid (A = pad (bytes (bstr (fireS n sk (tn : Int))))) := by
            rw [bytes_bstr]
            have e := HAA.out
            unfold ftA at e
            rw [H1.out, if_pos rfl, HPD.out] at e
            obtain ⟨i1, i2, _, _⟩ := good_tr HG.out (t := tn) (by rw [← HT.out]; exact ht2)
            have hXn : n.ts.getD tn ([], []) = X := by
              have h := HXe.out; rw [HT.out] at h; exact h.symm
            rw [hXn, ← mark_size hmk.out] at i1 i2
            rw [pad_putAll 48 _ _ (fun p hp => ⟨i1.nonneg p hp, by rw [bytes_length]; exact i1.lt p hp⟩), pad_putAll 49 _ _ (fun p hp => ⟨i2.nonneg p hp, by rw [putAll_length, bytes_length]; exact i2.lt p hp⟩)] at e
            have e2 := hF.out
            rw [e] at e2
            have e3 : (putAll 49 (putAll 48 (bytes sk) X.1) X.2).length = sk.size := by rw [putAll_length, putAll_length, bytes_length]
            have e4 : (pad (putAll 49 (putAll 48 (bytes sk) X.1) X.2)).take sk.size = putAll 49 (putAll 48 (bytes sk) X.1) X.2 := by
              unfold pad; rw [← e3, List.take_left']; rfl
            rw [e4] at e2
            rw [← e2]
            exact e
          have H1r := Lib.hid h1
          have hN9 : Hid (ArrAt (wz.setRow b9 (arr A).toArray) b9 (pad (bytes (bstr (fireS n sk (tn : Int)))))) := ⟨by rw [setRow_heap _ _ _ _ _ _ HT9.out.1, ← hAe.out], by rw [← hAe.out]; exact lA⟩
          have hbN := below_setRow hw5 hge (arr A).toArray
          have r2 : (wz.setRow b9 (arr A).toArray).cell? ⟨w.heap.size, 0, none⟩ = some (.int .i64 p) := (World.cell?_of_block (setRow_other _ _ _ _ hne)).trans r0
          have r3 : (wz.setRow b9 (arr A).toArray).cell? ⟨w.heap.size, 1, none⟩ = some (.slice (some ⟨tb, toff, none⟩) ts.length cap) := (World.cell?_of_block (setRow_other _ _ _ _ hne)).trans r1
          clear h1 r0 r1
          go_wp2_with (first | (refine wpList_load_row rfl 118 _ rfl b12 rfl _ _ _ _ HTr.out.1 u1 rfl (infoArr lA) ?_) | (refine wpList_store_row rfl 118 _ _ rfl b9 _ rfl rfl _ _ HT9.out.1 (infoArr lA) (by simp [arr_length, lA, lp]) (arr_all _) ?_))
          go_roundw
          case rel => exact ⟨k + 1, _, by omega, by go_num, H1r, h2, hN9, hbN, r2, r3⟩
          case measure => simp [intOf]; omega
    · have hkk : k = l.length := by omega
      subst hkk
      have h1 := hrun.out
      rw [run_end] at h1
      simp only [Prod.mk.injEq] at h1
      obtain ⟨rfl, rfl, rfl⟩ := h1
      go_wp2_with (refine wpList_load_row rfl 118 _ rfl b9 rfl _ _ _ _ harr.out.1 u1 rfl (infoArr lp) ?_)
      rw [hps.out]
      refine (writeMarking_any sk.size _ _ lp _ hsk _ _ _ rfl).mono ?_
      rintro e w4 ⟨rfl, hb⟩
      rw [take_pad rfl]
      have hw4 : Below w.heap.size w w4 := hb1.trans (hb.mono hb1.size)
      clear hb d0 d1
      go_wp2_with fail
      go_ret3
      exact ⟨rfl, hw4⟩

end Go.Proofs.Ytkkfglolameogaa
