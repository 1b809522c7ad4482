/- WALKS: l1Mark, IsValidMarking of both.
   WALKS: produce, newHistory of the program.
   WALKS: hasNoConflict, pastOf of the program. -/
import Derived.Test.YtigkgfdnnfmmmaaGreatVImpl
import Derived.Test.YtigkgfdnnfmmmaaGreatVSgi
import Derived.Test.YtigkgfdnnfmmmaaGreatVUfh
import Derived.Test.YtigkgfdnnfmmmaaGreatVHia
import Derived.Test.YtigkgfdnnfmmmaaGreatVGood
namespace Go.Proofs.YtigkgfdnnfmmmaaGreat
open Go.RowKit

/-- the first k bytes are '0' or '1' -/
def DigTo (s : ByteArray) (k : Nat) : Prop := ∀ i, i < k → (s.get! i).toNat = 48 ∨ (s.get! i).toNat = 49
instance (s : ByteArray) (k : Nat) : Decidable (DigTo s k) := by unfold DigTo; infer_instance
def digB (s : ByteArray) : Bool := decide (DigTo s s.size)
theorem DigTo.zero (s : ByteArray) : DigTo s 0 := fun _i hi => absurd hi (Nat.not_lt_zero _)
theorem DigTo.succ {s : ByteArray} {k : Nat} (h : DigTo s k) (hk : k < s.size) (hd : s[k].toNat = 48 ∨ s[k].toNat = 49) : DigTo s (k + 1) := by
  intro i hi
  by_cases e : i = k
  · subst e; rw [get!_eq hk]; exact hd
  · exact h i (by omega)
theorem digB_true {s : ByteArray} (h : DigTo s s.size) : digB s = true := decide_eq_true h
theorem digB_false {s : ByteArray} {k : Nat} (hk : k < s.size) (hd : ¬ (s[k].toNat = 48 ∨ s[k].toNat = 49)) : digB s = false :=
  decide_eq_false fun h => hd (by rw [← get!_eq hk]; exact h k hk)

/-- a marking of a net -/
def markB (n : NetD) (s : ByteArray) : Bool := digB s && decide ((s.size : Int) = n.places)

set_option maxRecDepth 100000 in
set_option maxHeartbeats 400000 in
theorem l1Mark_any (v : Value) (n : NetD) (s : ByteArray) (w : World) (lo : Nat) (hv : NetAt lo w v n) (hs : s.size ≤ 1048576) :
    Calls Tryz.prog 82 #[v, .string s] w (RetB w (markB n s)) := by
  generalize hG : markB n s = g
  have HG := Lib.hid hG; clear hG
  obtain ⟨p, ts⟩ := n
  obtain ⟨hp0, hp1, u, rfl, ht⟩ := hv
  simp only at hp0 hp1 ht
  obtain ⟨ao, cap, rfl, hc, hz⟩ := ht
  clear hz
  go_enter Tryz.func82, Tryz.ntmps82
  go_wp2_with fail
  go_loop [5] (fun i => ∃ k : Nat, k ≤ s.size ∧ i = .int .i64 k ∧ Hid (DigTo s k)) (fun i => s.size - (intOf i).toNat)
  case atStart => exact ⟨0, Nat.zero_le _, rfl, DigTo.zero _⟩
  case round =>
    obtain ⟨k, hk, rfl, hd⟩ := hrel
    by_cases hlt : k < s.size
    · by_cases h8 : s[k].toNat = 48
      · have H2 := Lib.hid (hd.out.succ hlt (Or.inl h8))
        have t8 : ((s[k].toNat : Int) != 48) = false := by rw [h8]; rfl
        clear h8
        go_wp2_with fail
        go_round
        case rel => exact ⟨k + 1, by omega, by go_num, H2⟩
        case measure => simp [intOf]; omega
      · have t8 : ((s[k].toNat : Int) != 48) = true := by rw [bne_iff_ne]; omega
        by_cases h9 : s[k].toNat = 49
        · have H2 := Lib.hid (hd.out.succ hlt (Or.inr h9))
          have t9 : ((s[k].toNat : Int) != 49) = false := by rw [h9]; rfl
          clear h8 h9
          go_wp2_with fail
          go_round
          case rel => exact ⟨k + 1, by omega, by go_num, H2⟩
          case measure => simp [intOf]; omega
        · have t9 : ((s[k].toNat : Int) != 49) = true := by rw [bne_iff_ne]; omega
          have hfin : markB ⟨p, ts⟩ s = false := by unfold markB; rw [digB_false hlt (by omega)]; rfl
          rw [HG.out] at hfin
          subst hfin
          clear h8 h9
          go_wp2_with fail
          go_ret
          exact ⟨rfl, by (repeat' (first | (with_reducible exact Below.refl _ _) | (with_reducible assumption) | (with_reducible refine Below.alloc ?_ ?_ _) | (with_reducible refine Below.drew ?_) | (with_reducible refine below_drewN ?_ _) | (with_reducible refine Below.setCell ?_ ?_ _) | go_size))⟩
    · have hkk : k = s.size := by omega
      subst hkk
      have hd' := digB_true hd.out
      by_cases he : (s.size : Int) = p
      · have hfin : markB ⟨p, ts⟩ s = true := by unfold markB; rw [hd', decide_eq_true (by exact he)]; rfl
        rw [HG.out] at hfin
        subst hfin
        have te : ((s.size : Int) == p) = true := by simpa using he
        clear hd' he
        go_wp2_with fail
        go_ret
        exact ⟨rfl, by (repeat' (first | (with_reducible exact Below.refl _ _) | (with_reducible assumption) | (with_reducible refine Below.alloc ?_ ?_ _) | (with_reducible refine Below.drew ?_) | (with_reducible refine below_drewN ?_ _) | (with_reducible refine Below.setCell ?_ ?_ _) | go_size))⟩
      · have hfin : markB ⟨p, ts⟩ s = false := by unfold markB; rw [hd', decide_eq_false (by exact he)]; rfl
        rw [HG.out] at hfin
        subst hfin
        have te : ((s.size : Int) == p) = false := by simpa using he
        clear hd' he
        go_wp2_with fail
        go_ret
        exact ⟨rfl, by (repeat' (first | (with_reducible exact Below.refl _ _) | (with_reducible assumption) | (with_reducible refine Below.alloc ?_ ?_ _) | (with_reducible refine Below.drew ?_) | (with_reducible refine below_drewN ?_ _) | (with_reducible refine Below.setCell ?_ ?_ _) | go_size))⟩

set_option maxRecDepth 100000 in
set_option maxHeartbeats 400000 in
theorem IsValidMarking_any (v : Value) (n : NetD) (s : ByteArray) (w : World) (lo : Nat) (hv : NetAt lo w v n) (hsm : SmallTrs n.ts) (hs : s.size ≤ 1048576) :
    Calls Tryz.prog 86 #[v, .string s] w (RetB w (goodN n && markB n s)) := by
  generalize hG : goodN n = g
  have HG := Lib.hid hG; clear hG
  generalize hM : markB n s = m
  have HM := Lib.hid hM; clear hM
  obtain ⟨p, hp⟩ : ∃ p, p = n.places := ⟨_, rfl⟩
  have hv' := hv
  obtain ⟨hp0, hp1, u, rfl, ht⟩ := hv'
  obtain ⟨ao, cap, rfl, hc, hz⟩ := ht
  rw [← hp] at hv ⊢
  have HP := Lib.hid hp; clear hp
  have HV := Lib.hid hv; clear hv hz
  have HS := Lib.hid hsm; clear hsm
  go_enter Tryz.func86, Tryz.ntmps86
  go_wp2_with fail
  refine (IsValidNet_any _ n _ lo (HV.out.keep ?_) HS.out).mono ?_
  · (repeat' (first | (with_reducible exact Carries.refl _ _) | (with_reducible assumption) | (with_reducible refine Carries.alloc ?_ _) | (with_reducible refine Carries.drew ?_) | (with_reducible refine Carries.drewN ?_ _) | (with_reducible refine Carries.set ?_ ?_ _) | go_size))
  rintro e w1 ⟨rfl, hb⟩
  have hw1 : Below w.heap.size w w1 := by
    refine Below.trans ?_ (hb.mono ?_)
    · (repeat' (first | (with_reducible exact Below.refl _ _) | (with_reducible assumption) | (with_reducible refine Below.alloc ?_ ?_ _) | (with_reducible refine Below.drew ?_) | (with_reducible refine below_drewN ?_ _) | (with_reducible refine Below.setCell ?_ ?_ _) | go_size))
    · simp
  have a0 : w1.cell? ⟨w.heap.size, 0, none⟩ = some (.int .i64 p) := cell_carry (by simp) (Carries.of 0 hb)
  clear hb
  rw [HG.out]
  cases g with
  | false =>
    go_wp2_with fail
    go_ret
    exact ⟨rfl, hw1⟩
  | true =>
    by_cases he : (s.size : Int) = p
    case neg =>
      have te : ((s.size : Int) != p) = true := by simpa using he
      have hfin : markB n s = false := by unfold markB; rw [← HP.out, decide_eq_false (by exact he)]; simp
      rw [HM.out] at hfin
      subst hfin
      clear he
      go_wp2_with fail
      go_ret
      exact ⟨rfl, hw1⟩
    case pos =>
      have te : ((s.size : Int) != p) = false := by simpa using he
      have hm2 : markB n s = digB s := by unfold markB; rw [← HP.out, decide_eq_true (by exact he)]; simp
      have HM2 := Lib.hid (hm2.symm.trans HM.out); clear hm2 he
      go_wp2_with fail
      go_loop [5] (fun i => ∃ k : Nat, k ≤ s.size ∧ i = .int .i64 k ∧ Hid (DigTo s k)) (fun i => s.size - (intOf i).toNat)
      case atStart => exact ⟨0, Nat.zero_le _, rfl, DigTo.zero _⟩
      case round =>
        obtain ⟨k, hk, rfl, hd⟩ := hrel
        by_cases hlt : k < s.size
        · by_cases h8 : s[k].toNat = 48
          · have H2 := Lib.hid (hd.out.succ hlt (Or.inl h8))
            have t8 : ((s[k].toNat : Int) != 48) = false := by rw [h8]; rfl
            clear h8
            go_wp2_with fail
            go_round
            case rel => exact ⟨k + 1, by omega, by go_num, H2⟩
            case measure => simp [intOf]; omega
          · have t8 : ((s[k].toNat : Int) != 48) = true := by rw [bne_iff_ne]; omega
            by_cases h9 : s[k].toNat = 49
            · have H2 := Lib.hid (hd.out.succ hlt (Or.inr h9))
              have t9 : ((s[k].toNat : Int) != 49) = false := by rw [h9]; rfl
              clear h8 h9
              go_wp2_with fail
              go_round
              case rel => exact ⟨k + 1, by omega, by go_num, H2⟩
              case measure => simp [intOf]; omega
            · have t9 : ((s[k].toNat : Int) != 49) = true := by rw [bne_iff_ne]; omega
              have hfin := HM2.out
              rw [digB_false hlt (by omega)] at hfin
              subst hfin
              clear h8 h9
              go_wp2_with fail
              go_ret
              exact ⟨rfl, hw1⟩
        · have hkk : k = s.size := by omega
          subst hkk
          have hfin := HM2.out
          rw [digB_true hd.out] at hfin
          subst hfin
          go_wp2_with fail
          go_ret
          exact ⟨rfl, hw1⟩

end Go.Proofs.YtigkgfdnnfmmmaaGreat

namespace Go.Proofs.YtigkgfdnnfmmmaaGreat
open Go.RowKit

/-- behind a call that adds a condition -/
def RetPush (B H : Nat) (w : World) (P : Int) (vt ve vp : Value) (cs : List Cnd) (es : List Ev) (ps us : List Nat) (e : Ending) (w' : World) : Prop :=
  e = .returned (.tuple #[]) ∧ ∃ vc vu, HisAt B H w' P vt vc ve vp vu cs es ps us ∧ Below B w w'
theorem below_grown {B B' s n : Nat} {a w w' : World} {t : TypeId} {v : Value} {xs : List Value} (h : Below B a w) (hB : B ≤ w.heap.size) (hx : w.ownsRow B' t s v n xs) (hb : B ≤ B') (hg : w.grownBy w' v.ownBlock) : Below B a w' := by
  refine h.trans ⟨hg.os, hg.tape, hg.output, hg.size, fun b hb2 => hg.block b (by omega) ?_⟩
  rcases hx.2 with ⟨rfl, _⟩ | ⟨g, cap, cur, rfl, hq, _⟩
  · simp [Value.ownBlock]
  · simp only [Value.ownBlock, ne_eq, Option.some.injEq]; omega

theorem cell_new1 {w : World} {v : Value} {t : TypeId} {h : Nat} (hh : h = w.heap.size) : (w.alloc (.cells #[v] t)).cell? ⟨h, 0, none⟩ = some v := by
  subst hh; simp
theorem cell_new2 {w : World} {v u : Value} {t : TypeId} {h : Nat} (hh : h = w.heap.size) : (w.alloc (.cells #[v, u] t)).cell? ⟨h, 0, none⟩ = some v ∧ (w.alloc (.cells #[v, u] t)).cell? ⟨h, 1, none⟩ = some u := by
  subst hh; simp

set_option maxRecDepth 100000 in
set_option maxHeartbeats 1000000 in
theorem produce_any (B H : Nat) (w : World) (P : Int) (vt vc ve vp vu : Value) (cs : List Cnd) (es : List Ev) (ps us : List Nat) (p e : Int) (h : HisAt B H w P vt vc ve vp vu cs es ps us) (hc : cs.length ≤ 1073741824) (hu : us.length ≤ 1073741824) (hB : B ≤ w.heap.size) :
    Calls Tryz.prog 72 #[.pointer (some ⟨H, 0, none⟩), .int .i64 p, .int .i64 e] w (RetPush B H w P vt ve vp (cs ++ [(p, e)]) es ps (us ++ [0])) := by
  have HH := Lib.hid h
  have c2 := h.c2
  have hlt := h.ty.lt
  have hbH := h.bH
  clear h
  go_enter Tryz.func72, Tryz.ntmps72
  have HW1 : Below w.heap.size w (w.alloc (.cells #[.int .i64 p, .int .i64 e] 96)) := (Below.refl _ _).alloc (Nat.le_refl _) _
  have HW1B : Below B w (w.alloc (.cells #[.int .i64 p, .int .i64 e] 96)) := (Below.refl _ _).alloc hB _
  have HH1 := Lib.hid (HH.out.after HW1)
  have HB1 := Lib.hid HW1B
  clear HW1 HW1B
  go_wp2_with (first
    | (refine wpList_append_cnd rfl (.tmp 11) (.tmp 15) rfl B _ cs rfl HH1.out.rc w.heap.size p e rfl (by simp) (by simp) hc (by simp; omega) ?_; intro gv kv w' hown hg; obtain ⟨⟨_, _, k2, _, _, _⟩, kf, _⟩ := HH1.out.mid HH1.out.rc (by decide) hg; have kf2 := kf 2; clear kf; have HB2 := Lib.hid (below_grown HB1.out (by simp; omega) HH1.out.rc (Nat.le_refl _) hg); have HH2 := Lib.hid (HH1.out.pushC hown hg); clear hown hg c2; go_must (have c5 := HH2.out.c5; have z2 : B ≤ w'.heap.size := Nat.le_trans hB HB2.out.size; have HB3 := Lib.hid (HB2.out.setCell (p := ⟨H, 2, none⟩) hbH (.slice (some ⟨gv, 0, none⟩) (cs.length + 1) kv)); have HA := Lib.hid (show Below _ _ ((w'.setCell ⟨H, 2, none⟩ (.slice (some ⟨gv, 0, none⟩) (cs.length + 1) kv)).alloc (.cells #[.int .u64 0] 109)) from (Below.refl _ _).alloc (Nat.le_refl _) _); have HH3 := Lib.hid (HH2.out.after HA.out); have HB4 := Lib.hid (HB3.out.alloc (by simpa using z2) (.cells #[.int .u64 0] 109)); clear HB2))
    | (refine wpList_append_set rfl (.tmp 24) (.tmp 25) rfl B _ us rfl HH3.out.ru w'.heap.size 0 rfl (cell_new1 (by simp)) hu (by simp; omega) ?_; intro g cap w2 hown hg hat; obtain ⟨⟨_, _, _, _, _, q5⟩, kf, _⟩ := HH3.out.mid HH3.out.ru (by decide) hg; have kf5 := kf 5; clear kf))
  go_end0
  refine ⟨rfl, _, _, HH3.out.pushU hown hg hat, ?_⟩
  exact (below_grown HB4.out (by simp; omega) HH3.out.ru (Nat.le_refl _) hg).setCell (p := ⟨H, 5, none⟩) hbH _

end Go.Proofs.YtigkgfdnnfmmmaaGreat

namespace Go.Proofs.YtigkgfdnnfmmmaaGreat
open Go.RowKit

/-- sets of events fit in 64 bits -/
def Fit (l : List Nat) : Prop := ∀ k, l.getD k 0 < 18446744073709551616
/-- two events of the set share one of the conditions -/
def cfAt (us : List Nat) (S : Nat) (k : Nat) : Bool := decide (1 < popA 64 (us.getD k 0 &&& S))
def cfB (us : List Nat) (S : Nat) : Bool := anyTo us.length (cfAt us S)

set_option maxRecDepth 100000 in
set_option maxHeartbeats 400000 in
theorem noConflictClo_any (u S b : Nat) (w : World) (hu : u < 18446744073709551616) (hS : S < 18446744073709551616) (hc : w.cell? ⟨b, 0, none⟩ = some (.int .u64 (S : Int))) :
    Calls Tryz.prog 94 #[.int .u64 (u : Int), .pointer (some ⟨b, 0, none⟩)] w (RetB w (decide (1 < popA 64 (u &&& S)))) := by
  have e1 : bits .and .u64 (u : Int) (S : Int) = ((u &&& S : Nat) : Int) := bits_and_u64_nat u S hu hS
  have hlt : u &&& S < 18446744073709551616 := Nat.lt_of_le_of_lt Nat.and_le_left hu
  generalize u &&& S = X at e1 hlt ⊢
  go_enter Tryz.func94, Tryz.ntmps94
  go_wp2_with (simp only [e1])
  refine (OnesCount64_any X w hlt).mono ?_
  rintro e w1 ⟨rfl, rfl⟩
  have e2 : decide ((1 : Int) < ((popA 64 X : Nat) : Int)) = decide (1 < popA 64 X) := decide_eq_decide.2 (by omega)
  have E2 := Lib.hid e2
  clear e1 hlt e2
  go_wp2_with fail
  go_ret
  exact ⟨congrArg (fun b => Ending.returned (.bool b)) E2.out, Below.refl _ _⟩

set_option maxRecDepth 100000 in
set_option maxHeartbeats 400000 in
theorem hasNoConflict_any (B H : Nat) (w : World) (P : Int) (vt vc ve vp vu : Value) (cs : List Cnd) (es : List Ev) (ps us : List Nat) (S : Nat) (h : HisAt B H w P vt vc ve vp vu cs es ps us) (hl : us.length ≤ 1048576) (hf : Fit us) (hS : S < 18446744073709551616) :
    Calls Tryz.prog 80 #[.pointer (some ⟨H, 0, none⟩), .int .u64 (S : Int)] w (RetB w (!cfB us S)) := by
  have c5 := h.c5
  have hat := h.ru.at
  obtain ⟨au, ku, rfl, _, _⟩ := id hat
  have HU := Lib.hid hat; clear hat h
  have HF := Lib.hid hf; clear hf
  obtain ⟨g, hg⟩ : ∃ g, g = cfB us S := ⟨_, rfl⟩
  rw [← hg]
  have HG := Lib.hid hg; clear hg
  have hmf : ∀ (fn : Fn) (first cap : Array Value) (w : World), (Instr.makeFunc fn first cap).run Tryz.prog w = .ok (.func fn first cap) w := fun _ _ _ _ => rfl
  have HA : Below w.heap.size w (w.alloc (.cells #[.int .u64 (S : Int)] 109)) := (Below.refl _ _).alloc (Nat.le_refl _) _
  have c5 := cell_carry c5 (Carries.of 0 HA)
  have hbx : (w.alloc (.cells #[.int .u64 (S : Int)] 109)).cell? ⟨w.heap.size, 0, none⟩ = some (.int .u64 (S : Int)) := cell_new1 rfl
  go_enter Tryz.func80, Tryz.ntmps80
  go_wp2_with fail
  refine (ContainsFuncSet_any _ us 94 _ (cfAt us S) _ B (HU.out.keep (Carries.of B HA)) hl (fun _ _ => rfl) (fun k hk w1 hb => noConflictClo_any _ S w.heap.size w1 (HF.out k) hS (cell_carry hbx (Carries.of 0 hb)))).mono ?_
  rintro e w2 ⟨rfl, hb⟩
  have hw2 : Below w.heap.size w w2 := HA.trans (hb.mono (by simp))
  have hq : anyTo us.length (cfAt us S) = g := HG.out.symm
  rw [hq]
  go_wp2_with fail
  go_ret
  exact ⟨rfl, hw2⟩

/-- the past of the first k conditions of a list -/
def paTo (cs : List Cnd) (ps : List Nat) (L : List Int) : Nat → Nat
  | 0 => 0
  | k + 1 => paTo cs ps L k ||| (if cnB cs (L.getD k 0).toNat = -1 then 0 else ps.getD (cnB cs (L.getD k 0).toNat).toNat 0)
def paL (cs : List Cnd) (ps : List Nat) (L : List Int) : Nat := paTo cs ps L L.length
theorem paTo_fit {cs : List Cnd} {ps : List Nat} {L : List Int} (hf : Fit ps) : ∀ k, paTo cs ps L k < 18446744073709551616
  | 0 => by show (0 : Nat) < _; decide
  | k + 1 => by
    have ih := paTo_fit (cs := cs) (L := L) hf k
    show _ ||| _ < _
    refine Nat.or_lt_two_pow (n := 64) ih ?_
    split
    · decide
    · exact hf _
/-- the producers of conditions are events that there are -/
def ByIn (cs : List Cnd) (n : Nat) : Prop := ∀ c, c < cs.length → cnB cs c = -1 ∨ (0 ≤ cnB cs c ∧ cnB cs c < (n : Int))

set_option maxRecDepth 100000 in
set_option maxHeartbeats 1000000 in
theorem pastOf_any (B H : Nat) (w : World) (P : Int) (vt vc ve vp vu : Value) (cs : List Cnd) (es : List Ev) (ps us : List Nat) (v : Value) (L : List Int) (lo : Nat) (h : HisAt B H w P vt vc ve vp vu cs es ps us) (hv : IntsAt lo w v L) (hl : L.length ≤ 1048576) (hin : ∀ k, k < L.length → 0 ≤ L.getD k 0 ∧ L.getD k 0 < (cs.length : Int)) (hby : ByIn cs ps.length) (hf : Fit ps) (hcl : cs.length ≤ 1048576) (hpl : ps.length ≤ 1048576) :
    Calls Tryz.prog 71 #[.pointer (some ⟨H, 0, none⟩), v] w (RetV w (.int .u64 ((paL cs ps L : Nat) : Int))) := by
  have c2 := h.c2
  have c4 := h.c4
  have hat := h.rc.at
  have hap := h.rp.at
  obtain ⟨ac, kc, rfl, _, hzc⟩ := id hat
  obtain ⟨ap, kp, rfl, _, hzp⟩ := id hap
  have HZC := Lib.hid hzc
  have HZP := Lib.hid hzp
  clear hzc hzp hat hap h
  have HF := Lib.hid hf; clear hf
  have HIN := Lib.hid hin; clear hin
  have HBY := Lib.hid hby; clear hby
  obtain ⟨T, hT⟩ : ∃ T : Nat → Nat, T = paTo cs ps L := ⟨_, rfl⟩
  have e : paL cs ps L = T L.length := by rw [hT]; rfl
  rw [e]; clear e
  have HT := Lib.hid hT; clear hT
  obtain ⟨ao, cap, rfl, hc, hz⟩ := hv
  have HL := Lib.hid hz; clear hz
  go_enter Tryz.func71, Tryz.ntmps71
  go_wp2_with fail
  go_loop [5, 11] (fun p i => ∃ k : Nat, k ≤ L.length ∧ i = .int .i64 k ∧ p = .int .u64 ((T k : Nat) : Int)) (fun _ i => L.length - (intOf i).toNat)
  case atStart => exact ⟨0, Nat.zero_le _, rfl, by rw [HT.out]; rfl⟩
  case round =>
    obtain ⟨k, hk, rfl, rfl⟩ := hrel
    by_cases hlt : k < L.length
    · rcases HL.out with rfl | ⟨b, off, rfl, hlo, hcell⟩
      · simp at hlt
      have d0 := hcell k hlt
      obtain ⟨i0, i1⟩ := HIN.out k hlt
      have hstep : T (k + 1) = T k ||| (if cnB cs (L.getD k 0).toNat = -1 then 0 else ps.getD (cnB cs (L.getD k 0).toNat).toNat 0) := by rw [HT.out]; rfl
      have hfit : T k < 18446744073709551616 := by rw [HT.out]; exact paTo_fit HF.out k
      clear hcell
      generalize L.getD k 0 = x at d0 i0 i1 hstep
      obtain ⟨c, rfl⟩ : ∃ c : Nat, x = (c : Int) := ⟨x.toNat, by omega⟩
      have hcl2 : c < cs.length := by omega
      rw [Int.toNat_natCast] at hstep
      rcases HZC.out with h0 | ⟨b2, off2, rfl, hlo2, hcell2⟩
      · omega
      have d1 := (hcell2 c hcl2).2
      have hby := HBY.out c hcl2
      try dsimp only at d1
      clear hcell2
      generalize cnB cs c = y at d1 hby hstep
      rcases hby with rfl | ⟨y0, y1⟩
      · rw [if_pos rfl, Nat.or_zero] at hstep
        have HST := Lib.hid hstep; clear hstep
        go_wp2_with fail
        go_round
        case rel => exact ⟨k + 1, by omega, by go_num, by rw [HST.out]⟩
        case measure => simp [intOf]; omega
      · obtain ⟨j, rfl⟩ : ∃ j : Nat, y = (j : Int) := ⟨y.toNat, by omega⟩
        have hjl : j < ps.length := by omega
        rw [if_neg (by omega), Int.toNat_natCast] at hstep
        rcases HZP.out with h0 | ⟨b3, off3, rfl, hlo3, hcell3⟩
        · omega
        have d2 := hcell3 j hjl
        have hf2 := HF.out j
        clear hcell3
        generalize ps.getD j 0 = z at d2 hf2 hstep
        have t1 : ((j : Int) != -1) = true := by rw [bne_iff_ne]; omega
        have e1 : bits .or .u64 ((T k : Nat) : Int) (z : Int) = ((T k ||| z : Nat) : Int) := bits_or_u64_nat (T k) z hfit hf2
        rw [← hstep] at e1
        clear hstep
        go_wp2_with (simp only [e1])
        go_round
        case rel => exact ⟨k + 1, by omega, by go_num, rfl⟩
        case measure => simp [intOf]; omega
    · have hkk : k = L.length := by omega
      subst hkk
      go_wp2_with fail
      go_ret
      exact ⟨rfl, Below.refl _ _⟩

end Go.Proofs.YtigkgfdnnfmmmaaGreat
