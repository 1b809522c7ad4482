/- WALKS: setOfEvents, includes, isConfiguration, IsConfiguration of the program (written by gen8/gcfp.py). -/
import Derived.Test.YtdiblkgjmkbpmaaGreatVHmk
namespace Go.Proofs.YtdiblkgjmkbpmaaGreat
open Go.RowKit

set_option maxHeartbeats 1000000 in
theorem setOfEvents_any (v : Value) (L : List Int) (w : World) (lo : Nat) (hv : IntsAt lo w v L) (hl : L.length ≤ 1048576) (hin : ∀ k, k < L.length → 0 ≤ L.getD k 0 ∧ L.getD k 0 < 60) :
    Calls Tryz.prog 94 #[v] w (RetV w (.int .u64 ((setL L : Nat) : Int))) := by
  obtain ⟨T, hT⟩ : ∃ T : Nat → Nat, T = setTo L := ⟨_, rfl⟩
  have e : setL L = T L.length := by rw [hT]; rfl
  rw [e]; clear e
  have HT := Lib.hid hT; clear hT
  have HIN := Lib.hid hin; clear hin
  obtain ⟨ao, cap, rfl, hc, hz⟩ := hv
  have HL := Lib.hid hz; clear hz
  go_enter Tryz.func94, Tryz.ntmps94
  go_wp2_with fail
  go_loop [3, 8] (fun p i => ∃ k : Nat, k ≤ L.length ∧ i = .int .i64 k ∧ p = .int .u64 ((T k : Nat) : Int)) (fun _ i => L.length - (intOf i).toNat)
  case atStart => exact ⟨0, Nat.zero_le _, rfl, by rw [HT.out]; rfl⟩
  case round =>
    obtain ⟨k, hk, rfl, rfl⟩ := hrel
    by_cases hlt : k < L.length
    · rcases HL.out with h0 | ⟨b, off, rfl, hlo, hcell⟩
      · exact absurd hlt (by have h1 : L.length = 0 := (by simpa using h0); omega)
      have d0 := hcell k hlt
      obtain ⟨i0, i1⟩ := HIN.out k hlt
      have hstep : T (k + 1) = T k ||| 2 ^ (L.getD k 0).toNat := by rw [HT.out]; rfl
      have hfit : T k < 18446744073709551616 := by rw [HT.out]; exact setTo_fit (m := 64) (Nat.le_refl _) (fun q hq => by have := HIN.out q hq; omega) k hk
      clear hcell
      generalize L.getD k 0 = x at d0 i0 i1 hstep
      obtain ⟨c, rfl⟩ : ∃ c : Nat, x = (c : Int) := ⟨x.toNat, by omega⟩
      rw [Int.toNat_natCast] at hstep
      have hc60 : c ≤ 60 := by omega
      have e2 := shl_one hc60
      push_cast at e2
      have e1 : bits .or .u64 ((T k : Nat) : Int) ((2 : Int) ^ c) = ((T (k + 1) : Nat) : Int) := by
        have h := bits_or_u64_nat (T k) _ hfit (pow60 hc60)
        rw [show ((2 ^ c : Nat) : Int) = (2 : Int) ^ c by push_cast; rfl, ← hstep] at h
        exact h
      clear hstep
      go_wp2_with (simp only [e1])
      go_round
      case rel => exact ⟨k + 1, by omega, by go_num, rfl⟩
      case measure => simp [intOf]; omega
    · have hkk : k = L.length := by omega
      subst hkk
      go_wp2_with fail
      go_ret
      exact ⟨rfl, Below.refl _ _⟩

set_option maxHeartbeats 1000000 in
theorem includes_any (S T : Nat) (w : World) (hS : S < 18446744073709551616) (hT : T < 18446744073709551616) :
    Calls Tryz.prog 97 #[.int .u64 (S : Int), .int .u64 (T : Int)] w (RetB w (incB S T)) := by
  unfold incB
  have e1 := u64_andNot_nat T S hT hS
  generalize hX : T &&& (18446744073709551615 - S) = X at e1 ⊢
  clear hX
  have e2 : (((X : Nat) : Int) == 0) = decide (X = 0) := by
    rw [Bool.eq_iff_iff]; simp
  generalize decide (X = 0) = R at e2 ⊢
  go_enter Tryz.func97, Tryz.ntmps97
  go_wp2_with fail
  go_ret
  exact ⟨by first | rfl | rw [← e2] | simp [e1, e2], Below.refl _ _⟩

set_option maxRecDepth 100000 in
set_option maxHeartbeats 1000000 in
theorem cfgClo_any (B H : Nat) (w : World) (P : Int) (vt vc ve vp vu : Value) (cs : List Cnd) (es : List Ev) (ps us : List Nat) (S e b b2 : Nat) (h : HisAt B H w P vt vc ve vp vu cs es ps us) (he : e < ps.length) (hf : Fit ps) (hS : S < 18446744073709551616) (hb : w.cell? ⟨b, 0, none⟩ = some (.int .u64 (S : Int))) (hb2 : w.cell? ⟨b2, 0, none⟩ = some (.pointer (some ⟨H, 0, none⟩))) :
    Calls Tryz.prog 96 #[.int .i64 (e : Int), .pointer (some ⟨b, 0, none⟩), .pointer (some ⟨b2, 0, none⟩)] w (RetB w (!incB S (ps.getD e 0))) := by
  have c4 := h.c4
  obtain ⟨ap, kp, rfl, _, hz⟩ := id h.rp.at
  clear h
  rcases hz with h0 | ⟨g, off, rfl, _, hcell⟩
  · omega
  have d0 := hcell e he
  have hu := hf e
  clear hcell hf
  generalize ps.getD e 0 = u at d0 hu ⊢
  generalize ps.length = n at *
  go_enter Tryz.func96, Tryz.ntmps96
  go_wp2_with fail
  refine wp_region_held_drew (S := fun w' => w'.cell? ⟨b, 0, none⟩ = some (.int .u64 (S : Int)) ∧ w'.cell? ⟨b2, 0, none⟩ = some (.pointer (some ⟨H, 0, none⟩)) ∧ w'.cell? ⟨H, 4, none⟩ = some (.slice (some ⟨g, off, none⟩) n kp) ∧ w'.cell? ⟨g, off + e, none⟩ = some (.int .u64 (u : Int))) (by kernel_rfl) ⟨hb, hb2, c4, d0⟩ (fun hHeld => ?_)
  refine tk0 (v := ?_) (by kernel_rfl) (by kernel_rfl) (by kernel_rfl) (by first | exact fun _ _ _ h => h | exact fun _ _ _ h => absurd h.1 (by simp)) (Or.inl ⟨by rfl, ?_⟩) (by assumption) ?_
  rotate_left 1
  focus (intro wx hSw; (try dsimp only at hSw); go_simp; try (with_reducible rfl))
  try simp only [Act.put, List.setIfInBounds_toArray, List.set_cons_zero, List.set_cons_succ]
  refine tk1 (v := ?_) (by kernel_rfl) (by kernel_rfl) (by kernel_rfl) (by first | exact fun _ _ _ h => h | exact fun _ _ _ h => absurd h.1 (by simp)) (Or.inl ⟨by rfl, ?_⟩) (by assumption) ?_
  rotate_left 1
  focus (intro wx hSw; (try dsimp only at hSw); go_simp; try (with_reducible rfl))
  try simp only [Act.put, List.setIfInBounds_toArray, List.set_cons_zero, List.set_cons_succ]
  refine tk2 (v := ?_) (by kernel_rfl) (by kernel_rfl) (by kernel_rfl) (by first | exact fun _ _ _ h => h | exact fun _ _ _ h => absurd h.1 (by simp)) (Or.inl ⟨by rfl, ?_⟩) (by assumption) ?_
  rotate_left 1
  focus (intro wx hSw; (try dsimp only at hSw); go_simp; try (with_reducible rfl))
  try simp only [Act.put, List.setIfInBounds_toArray, List.set_cons_zero, List.set_cons_succ]
  refine tk3 (v := ?_) (by kernel_rfl) (by kernel_rfl) (by kernel_rfl) (by first | exact fun _ _ _ h => h | exact fun _ _ _ h => absurd h.1 (by simp)) (Or.inl ⟨by rfl, ?_⟩) (by assumption) ?_
  rotate_left 1
  focus (intro wx hSw; (try dsimp only at hSw); go_simp; try (with_reducible rfl))
  try simp only [Act.put, List.setIfInBounds_toArray, List.set_cons_zero, List.set_cons_succ]
  refine tk4 (v := ?_) (by kernel_rfl) (by kernel_rfl) (by kernel_rfl) (by first | exact fun _ _ _ h => h | exact fun _ _ _ h => absurd h.1 (by simp)) (Or.inl ⟨by rfl, ?_⟩) (by assumption) ?_
  rotate_left 1
  focus (intro wx hSw; (try dsimp only at hSw); go_simp; try (with_reducible rfl))
  try simp only [Act.put, List.setIfInBounds_toArray, List.set_cons_zero, List.set_cons_succ]
  refine tk5 (v := ?_) (by kernel_rfl) (by kernel_rfl) (by kernel_rfl) (by first | exact fun _ _ _ h => h | exact fun _ _ _ h => absurd h.1 (by simp)) (Or.inl ⟨by rfl, ?_⟩) (by assumption) ?_
  rotate_left 1
  focus (intro wx hSw; (try dsimp only at hSw); go_simp; try (with_reducible rfl))
  try simp only [Act.put, List.setIfInBounds_toArray, List.set_cons_zero, List.set_cons_succ]
  refine tk6 (v := ?_) (by kernel_rfl) (by kernel_rfl) (by kernel_rfl) (by first | exact fun _ _ _ h => h | exact fun _ _ _ h => absurd h.1 (by simp)) (Or.inl ⟨by rfl, ?_⟩) (by assumption) ?_
  rotate_left 1
  focus (intro wx hSw; (try dsimp only at hSw); go_simp; try (with_reducible rfl))
  try simp only [Act.put, List.setIfInBounds_toArray, List.set_cons_zero, List.set_cons_succ]
  refine tk7 (v := ?_) (by kernel_rfl) (by kernel_rfl) (by kernel_rfl) (by first | exact fun _ _ _ h => h | exact fun _ _ _ h => absurd h.1 (by simp)) (Or.inl ⟨by rfl, ?_⟩) (by assumption) ?_
  rotate_left 1
  focus (intro wx hSw; (try dsimp only at hSw); go_simp; try (with_reducible rfl))
  try simp only [Act.put, List.setIfInBounds_toArray, List.set_cons_zero, List.set_cons_succ]
  refine rd8 (by kernel_rfl) (fun K hK => ?_)
  go_simp
  refine (includes_any S u _ hS hu).mono ?_
  rintro e_ w1 ⟨rfl, hb1⟩
  have hb1 : Below w.heap.size w w1 := Below.trans (b := w.drew) (Below.refl _ _).drew (hb1.mono (by simp))
  have q0 := cell_carry hb (Carries.of 0 hb1)
  have q1 := cell_carry hb2 (Carries.of 0 hb1)
  have q2 := cell_carry c4 (Carries.of 0 hb1)
  have q3 := cell_carry d0 (Carries.of 0 hb1)
  refine hK.out _ _ ⟨q0, q1, q2, q3⟩ (fun hHeld => ?_)
  clear hK K
  try simp only [Act.put, List.setIfInBounds_toArray, List.set_cons_zero, List.set_cons_succ]
  refine tk9 (v := ?_) (by kernel_rfl) (by kernel_rfl) (by kernel_rfl) (by first | exact fun _ _ _ h => h | exact fun _ _ _ h => absurd h.1 (by simp)) (Or.inl ⟨by rfl, ?_⟩) (by assumption) ?_
  rotate_left 1
  focus (intro wx hSw; (try dsimp only at hSw); go_simp; try (with_reducible rfl))
  try simp only [Act.put, List.setIfInBounds_toArray, List.set_cons_zero, List.set_cons_succ]
  refine tk10 (v := ?_) (by kernel_rfl) (by kernel_rfl) (by kernel_rfl) (by first | exact fun _ _ _ h => h | exact fun _ _ _ h => absurd h.1 (by simp)) (Or.inl ⟨by rfl, ?_⟩) (by assumption) ?_
  rotate_left 1
  focus (intro wx hSw; (try dsimp only at hSw); go_simp; try (with_reducible rfl))
  try simp only [Act.put, List.setIfInBounds_toArray, List.set_cons_zero, List.set_cons_succ]
  refine wpAnyH_done (by kernel_rfl) ?_ _
  go_wp2_with fail
  go_ret
  exact ⟨rfl, hb1⟩

set_option maxRecDepth 100000 in
set_option maxHeartbeats 1000000 in
theorem isConfiguration_any (B H : Nat) (w : World) (P : Int) (vt vc ve vp vu : Value) (x : His) (v : Value) (L : List Int) (lo : Nat) (h : HisAt B H w P vt vc ve vp vu x.cs x.es x.ps x.us) (hv : IntsAt lo w v L) (hl : L.length ≤ 1048576) (hG : HisG x) (hcl : x.cs.length ≤ 1048576) (h60 : x.es.length ≤ 60) (hin : ∀ k, k < L.length → 0 ≤ L.getD k 0 ∧ L.getD k 0 < (x.es.length : Int)) :
    Calls Tryz.prog 55 #[.pointer (some ⟨H, 0, none⟩), v] w (RetB w (cfgB x L)) := by
  obtain ⟨S, hS⟩ : ∃ S, S = setL L := ⟨_, rfl⟩
  obtain ⟨q1, hq1⟩ : ∃ q, q = cfB x.us S := ⟨_, rfl⟩
  obtain ⟨q2, hq2⟩ : ∃ q, q = anyTo L.length (fun k => !incB S (x.ps.getD (L.getD k 0).toNat 0)) := ⟨_, rfl⟩
  have e : cfgB x L = (!q1 && !q2) := by unfold cfgB; rw [← hS, ← hq1, ← hq2]
  rw [e]; clear e
  have hSf : S < 18446744073709551616 := by rw [hS]; exact setTo_fit (m := 64) (Nat.le_refl _) (fun k hk => by have := hin k hk; omega) _ (Nat.le_refl _)
  have HS := Lib.hid hS; clear hS
  have HQ1 := Lib.hid hq1; clear hq1
  have HQ2 := Lib.hid hq2; clear hq2
  have HH := Lib.hid h; clear h
  have HV := Lib.hid hv
  obtain ⟨ao, cap, rfl, _, _⟩ := hv
  have HIN := Lib.hid hin; clear hin
  have HG := Lib.hid hG; clear hG
  have hmf : ∀ (fn : Fn) (first cap : Array Value) (w : World), (Instr.makeFunc fn first cap).run Tryz.prog w = .ok (.func fn first cap) w := fun _ _ _ _ => rfl
  have HA : Below w.heap.size w (w.alloc (.cells #[.pointer (some ⟨H, 0, none⟩)] 78)) := (Below.refl _ _).alloc (Nat.le_refl _) _
  have hbx : (w.alloc (.cells #[.pointer (some ⟨H, 0, none⟩)] 78)).cell? ⟨w.heap.size, 0, none⟩ = some (.pointer (some ⟨H, 0, none⟩)) := cell_new1 rfl
  go_enter Tryz.func55, Tryz.ntmps55
  go_wp2_with fail
  refine (setOfEvents_any _ L _ lo (HV.out.keep (Carries.of lo HA)) hl (fun k hk => by have := HIN.out k hk; omega)).mono ?_
  rintro e w1 ⟨rfl, hb⟩
  rw [← HS.out]
  have hw1 : Below w.heap.size w w1 := HA.trans (hb.mono (by simp))
  have hbx1 := cell_carry hbx (Carries.of 0 hb)
  clear hb hbx HA
  obtain ⟨W1, hW1⟩ : ∃ x, x = w1.alloc (.cells #[.int .u64 (S : Int)] 95) := ⟨_, rfl⟩
  have HA1 : Below w1.heap.size w1 W1 := by rw [hW1]; exact (Below.refl _ _).alloc (Nat.le_refl _) _
  have hby1 : W1.cell? ⟨w1.heap.size, 0, none⟩ = some (.int .u64 (S : Int)) := by rw [hW1]; exact cell_new1 rfl
  have hbx1 := cell_carry hbx1 (Carries.of 0 HA1)
  have hw1b : Below w.heap.size w W1 := hw1.trans (HA1.mono hw1.size)
  have hbx1c := hbx1
  rw [hW1] at hbx1c
  go_wp2_with (go_at_call 60; rw [← hW1]; clear hbx1c hW1; refine (hasNoConflict_any B H W1 P vt vc ve vp vu x.cs x.es x.ps x.us S (HH.out.after hw1b) (by rw [HG.out.m.uc]; exact hcl) HG.out.fu hSf).mono ?_)
  rintro e w2 ⟨rfl, hb⟩
  rw [← HQ1.out]
  have hw2 : Below w.heap.size w w2 := hw1b.trans (hb.mono hw1b.size)
  have hbx2 := cell_carry hbx1 (Carries.of 0 hb)
  have hby2 := cell_carry hby1 (Carries.of 0 hb)
  clear hb HA1 hbx1 hby1
  cases q1 with
  | true =>
    go_wp2_with fail
    go_ret
    exact ⟨rfl, hw2⟩
  | false =>
    go_wp2_with fail
    refine (ContainsFuncInt2_any _ L 96 _ _ (fun k => !incB S (x.ps.getD (L.getD k 0).toNat 0)) _ lo (HV.out.keep (Carries.of lo hw2)) hl (fun _ _ => rfl) (fun k hk wx hbx => ?_)).mono ?_
    · obtain ⟨i0, i1⟩ := HIN.out k hk
      obtain ⟨c, hc⟩ : ∃ c : Nat, L.getD k 0 = (c : Int) := ⟨(L.getD k 0).toNat, by omega⟩
      rw [hc, Int.toNat_natCast]
      exact cfgClo_any B H wx P vt vc ve vp vu x.cs x.es x.ps x.us S c w1.heap.size w.heap.size (HH.out.after (hw2.trans (hbx.mono hw2.size))) (by rw [HG.out.m.pe]; omega) HG.out.fp hSf (cell_carry hby2 (Carries.of 0 hbx)) (cell_carry hbx2 (Carries.of 0 hbx))
    rintro e w3 ⟨rfl, hb⟩
    rw [← HQ2.out]
    have hw3 : Below w.heap.size w w3 := hw2.trans (hb.mono hw2.size)
    go_wp2_with fail
    go_ret
    exact ⟨rfl, hw3⟩

/-- a list of events of a valid unfolding; whether it is a configuration -/
def icB (n : NetD) (s : ByteArray) (u : UnfD) (L : List Int) : Bool := uvB n s u && riseB 0 ((u.es.length : Int) - 1) L
def icV (n : NetD) (s : ByteArray) (u : UnfD) (L : List Int) : Bool := icB n s u L && cfgB (hisAll n s u.es) L
/-- a call returns two bools -/
def RetBB (w : World) (v b : Bool) (e : Ending) (w' : World) : Prop := e = .returned (.tuple #[.bool v, .bool b]) ∧ Below w.heap.size w w'

set_option maxRecDepth 100000 in
set_option maxHeartbeats 2000000 in
theorem IsConfiguration_any (v : Value) (n : NetD) (s : ByteArray) (vu : Value) (u : UnfD) (vl : Value) (L : List Int) (w : World) (lo lo' lo2 : Nat) (hv : NetAt lo w v n) (hvu : UnfAt lo' w vu u) (hvl : IntsAt lo2 w vl L) (hsm : SmallTrs n.ts) (hsu : SmallUnf u) (hl : L.length ≤ 1048576) (hs : s.size ≤ 1048576) :
    Calls Tryz.prog 20 #[v, .string s, vu, vl] w (RetBB w (icV n s u L) (icB n s u L)) := by
  obtain ⟨G, hG⟩ : ∃ x, x = icB n s u L := ⟨_, rfl⟩
  obtain ⟨V, hV⟩ : ∃ x, x = icV n s u L := ⟨_, rfl⟩
  rw [← hG, ← hV]
  have HF := Lib.hid hG; have HVV := Lib.hid hV
  clear hG hV
  have HL := Lib.hid hvl
  obtain ⟨al, kl, rfl, hxa, hxb⟩ := hvl
  obtain ⟨nl, hnl⟩ : ∃ x, x = L.length := ⟨_, rfl⟩
  rw [← hnl] at HL ⊢
  clear hxa hxb hnl
  obtain ⟨ao, cap, rfl⟩ := net_form hv
  obtain ⟨a0, k0, a1, k1, rfl, hcc, hee⟩ := hvu.form
  obtain ⟨R, hR⟩ : ∃ x, x = uvB n s u := ⟨_, rfl⟩
  have HR := Lib.hid hR
  clear hcc hee hR
  obtain ⟨p, hp⟩ : ∃ p, p = n.places := ⟨_, rfl⟩
  obtain ⟨m, hm⟩ : ∃ m, m = n.ts.length := ⟨_, rfl⟩
  obtain ⟨nc, hnc⟩ : ∃ m, m = u.cs.length := ⟨_, rfl⟩
  obtain ⟨ne, hne⟩ : ∃ m, m = u.es.length := ⟨_, rfl⟩
  rw [← hm] at hv
  rw [← hnc, ← hne] at hvu
  rw [← hp, ← hm, ← hnc, ← hne]
  have HPl := Lib.hid hp
  have HV := Lib.hid hv
  have HVU := Lib.hid hvu
  have HNE := Lib.hid hne
  have HNC := Lib.hid hnc
  clear hp hm hnc hne hv hvu
  obtain ⟨W, hW⟩ : ∃ x, x = (w.alloc (.cells #[.int .i64 p, .slice ao m cap] 34)).alloc (.cells #[.slice a0 nc k0, .slice a1 ne k1] 39) := ⟨_, rfl⟩
  have hw0 : Below w.heap.size w W := by rw [hW]; (repeat' (first | (with_reducible exact Below.refl _ _) | (with_reducible assumption) | (with_reducible refine Below.alloc ?_ ?_ _) | (with_reducible refine Below.drew ?_) | (with_reducible refine below_drewN ?_ _) | (with_reducible refine Below.setCell ?_ ?_ _) | go_size))
  go_enter Tryz.func20, Tryz.ntmps20
  go_wp2_with (go_at_call 48; rw [← hW]; clear hW; rw [HPl.out]; refine (readHistory_any _ n s _ u W lo lo' (HV.out.keep (Carries.of lo hw0)) (HVU.out.keep (Carries.of lo' hw0)) hsm hsu hs).mono ?_)
  rintro e w1 ⟨ph, rfl, hb1, hhis⟩
  rw [← HR.out] at hhis ⊢
  have hw1 : Below w.heap.size w w1 := hw0.trans (hb1.mono hw0.size)
  have hno : G = false → V = false := fun q => by rw [HVV.out]; unfold icV; rw [← HF.out, q]; rfl
  have HNO := Lib.hid hno; clear hno
  cases R with
  | false =>
    have hg : G = false := by rw [HF.out]; unfold icB; rw [← HR.out]; rfl
    have hvv := HNO.out hg
    subst hg; subst hvv
    go_wp2_with fail
    go_ret2
    exact ⟨rfl, hw1⟩
  | true =>
  obtain ⟨H, rfl, w0, vc, ve, vp, vu, hb2, hb3, hH⟩ := hhis rfl
  obtain ⟨hgn, h60, h200, hxc, hxe, hGG⟩ := uvB_all HR.out.symm
  have HX : Hid ((hisAll n s u.es).es.length = ne) := by unfold Hid; rw [hxe, HNE.out]
  have h60' : ne ≤ 60 := by rw [HNE.out]; exact h60
  have HXC : Hid ((hisAll n s u.es).cs.length ≤ 200) := by unfold Hid; rw [hxc]; exact h200
  have HH := Lib.hid hH; have HGG := Lib.hid hGG
  have c3 := hH.c3
  clear hH hGG hgn h60 h200 hxc hxe hhis
  have hr2 : G = riseB 0 ((ne : Int) - 1) L := by rw [HF.out]; unfold icB; rw [← HR.out, ← HNE.out]; rfl
  have hV2 : V = (G && cfgB (hisAll n s u.es) L) := by rw [HVV.out, HF.out]; rfl
  have HR2 := Lib.hid hr2; have HV2 := Lib.hid hV2
  clear hr2 hV2
  generalize hisAll n s u.es = x at HX HXC HH HGG HV2 c3
  obtain ⟨ae, ke, rfl⟩ := HH.out.re.form
  rw [HX.out] at c3
  go_wp2_with fail
  refine (isIndexList_any (ne : Int) L _ w1 lo2 (HL.out.keep (Carries.of lo2 hw1)) hl).mono ?_
  rintro e w2 ⟨rfl, hb2'⟩
  rw [← HR2.out]
  have hw2 : Below w.heap.size w w2 := hw1.trans (hb2'.mono hw1.size)
  have HH2 := Lib.hid (HH.out.after hb2')
  clear hb2' hb2 hb3 c3
  cases G with
  | false =>
    have hvv := HNO.out rfl
    subst hvv
    go_wp2_with fail
    go_ret2
    exact ⟨rfl, hw2⟩
  | true =>
  have hin := rise_in rfl HR2.out.symm
  have HIN : Hid (∀ k, k < L.length → 0 ≤ L.getD k 0 ∧ L.getD k 0 < (x.es.length : Int)) := by unfold Hid; rw [HX.out]; exact hin
  clear hin
  go_wp2_with fail
  refine (isConfiguration_any w0.heap.size H w2 n.places _ vc _ vp vu x _ L lo2 HH2.out (HL.out.keep (Carries.of lo2 hw2)) hl HGG.out (by have := HXC.out; omega) (by rw [HX.out]; exact h60') HIN.out).mono ?_
  rintro e w3 ⟨rfl, hb3'⟩
  have hvv : cfgB x L = V := by rw [HV2.out]; rfl
  rw [hvv]
  have hw3 : Below w.heap.size w w3 := hw2.trans (hb3'.mono hw2.size)
  go_wp2_with fail
  go_ret2
  exact ⟨rfl, hw3⟩

end Go.Proofs.YtdiblkgjmkbpmaaGreat
