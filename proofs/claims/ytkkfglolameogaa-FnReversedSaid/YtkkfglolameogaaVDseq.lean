/- DRAWS: DrawFireSequence. -/
import Derived.Test.YtkkfglolameogaaVDmark
import Derived.Test.YtkkfglolameogaaVEnl
import Derived.Test.YtkkfglolameogaaVSeqb
namespace Go.Proofs.Ytkkfglolameogaa
open Go.RowKit

theorem NetRow.net {B k : Nat} {w : World} {P : Int} {u : Value} (h : NetRow B k w u) (hk : k ≤ 8) (p0 : 0 ≤ P) (p1 : P ≤ 31) : ∃ ts, NetAt B w (.agg #[.int .i64 P, u]) ⟨P, ts⟩ ∧ SmallTrs ts := by
  obtain ⟨ts, xs, h1, h2, hr, h3⟩ := h
  refine ⟨ts, ⟨by show -9223372036854775808 ≤ P; omega, by show P ≤ 9223372036854775807; omega, u, rfl, OwnTrs.read h3 hr⟩, by omega, fun i hi => ?_⟩
  obtain ⟨l0, l1⟩ := h2 i hi
  exact ⟨by omega, by omega⟩
theorem enTo_get {f : Nat → Bool} {k i : Nat} (h : i < (enTo f k).length) : ∃ t : Nat, t < k ∧ (enTo f k).getD i 0 = (t : Int) := by
  unfold enTo at h ⊢
  rw [List.length_map] at h
  have hm : ((List.range k).filter f)[i] ∈ (List.range k).filter f := List.getElem_mem h
  refine ⟨((List.range k).filter f)[i], by simpa using (List.mem_filter.1 hm).1, ?_⟩
  simp [List.getD, h]
theorem fired_len (s : ByteArray) (X : Tr) : (bstr (fired s X)).size ≤ s.size := by
  rw [bstr_size]
  unfold fired
  split
  · rw [putAll_length]; unfold restB; rw [putAll_length, bytes_length]; exact Nat.le_refl _
  · exact Nat.zero_le _
theorem SetRow.setLow {B k : Nat} {w : World} {v : Value} (h : SetRow B k w v) {q : Addr} (hq : q.block < B) (u : Value) : SetRow B k (w.setCell q u) v := by
  obtain ⟨zs, hz, hr⟩ := h
  exact ⟨zs, hz, owns_set hr hq u⟩
theorem setRow_app {B : Nat} {w : World} {v : Value} {zs ys : List Int} (k : Nat) (h : w.ownsRow B 3 1 v (zs.length + ys.length) (intCells zs ++ intCells ys)) (hk : zs.length + ys.length ≤ k) : SetRow B k w v :=
  ⟨zs ++ ys, by rw [List.length_append]; exact hk, by show w.ownsRow B 3 1 v (zs ++ ys).length (intCells (zs ++ ys)); rw [List.length_append, intCells_append]; exact h⟩
theorem setRow_of {B : Nat} {w : World} {v : Value} {zs : List Int} (k : Nat) (h : w.ownsRow B 3 1 v zs.length (intCells zs)) (hk : zs.length ≤ k) : SetRow B k w v := ⟨zs, hk, h⟩

/-- a call returns a drawn net, a text and numbers -/
def RetDS (w : World) (e : Ending) (w' : World) : Prop := ∃ (P : Int) (u : Value) (s : ByteArray) (lv : Value), e = .returned (.tuple #[.agg #[.int .i64 P, u], .string s, lv]) ∧ 0 ≤ P ∧ P ≤ 31 ∧ NetRow w.heap.size 4 w' u ∧ s.size ≤ 1010 ∧ SetRow w.heap.size 10 w' lv ∧ Below w.heap.size w w'

set_option maxRecDepth 100000 in
set_option maxHeartbeats 8000000 in
theorem DrawFireSequence_any (v : Value) (n : Nat) (w : World) (hv : CodeIn w.heap.size w v n) (hn : n ≤ 1048576) :
    Calls Try.prog 40 #[v] w (RetDS w) := by
  have hal0 : Below w.heap.size w (w.alloc (.cells #[.int .i64 0, .slice none 0 0] 32)) := (Below.refl _ _).alloc (Nat.le_refl _) _
  have z0 : (w.alloc (.cells #[.int .i64 0, .slice none 0 0] 32)).heap.size = w.heap.size + 1 := by simp
  have hcode : CodeIn (w.alloc (.cells #[.int .i64 0, .slice none 0 0] 32)).heap.size (w.alloc (.cells #[.int .i64 0, .slice none 0 0] 32)) v n := (hv.keep (fun x hx _ => hal0.block x hx)).up (by omega)
  have HC0 := Lib.hid (CurAt.new hcode hn)
  rw [z0] at HC0
  have hal1 : Below (w.heap.size + 1) (w.alloc (.cells #[.int .i64 0, .slice none 0 0] 32)) (((w.alloc (.cells #[.int .i64 0, .slice none 0 0] 32)).alloc (.cells #[v, .int .i64 0, .int .u64 0] 115))) := (Below.refl _ _).alloc (by omega) _
  have BR0 := Lib.hid ((NBox.new w (.int .i64 0) (.slice none 0 0) 32).keep (hal1.block w.heap.size (by omega)))
  have z1 : (((w.alloc (.cells #[.int .i64 0, .slice none 0 0] 32)).alloc (.cells #[v, .int .i64 0, .int .u64 0] 115))).heap.size = w.heap.size + 2 := by simp
  have bel1 : Below w.heap.size w (((w.alloc (.cells #[.int .i64 0, .slice none 0 0] 32)).alloc (.cells #[v, .int .i64 0, .int .u64 0] 115))) := hal0.trans (hal1.mono (by omega))
  have HCD := Lib.hid ((hv.keep (fun x hx _ => bel1.block x hx)).up (show w.heap.size ≤ (((w.alloc (.cells #[.int .i64 0, .slice none 0 0] 32)).alloc (.cells #[v, .int .i64 0, .int .u64 0] 115))).heap.size by omega))
  obtain ⟨ao, cap, rfl, _⟩ := hv
  clear hal0 hal1 hcode
  go_enter Try.func40, Try.ntmps40
  go_wp2_with fail
  generalize ((w.alloc (.cells #[.int .i64 0, .slice none 0 0] 32)).alloc (.cells #[.slice ao n cap, .int .i64 0, .int .u64 0] 115)) = W1 at HC0 BR0 z1 bel1 HCD ⊢
  refine (DrawMark_any _ n W1 HCD.out hn).mono ?_
  rintro e w2 ⟨P, u, s, rfl, p0, p1, hnr, hs, hb2⟩
  obtain ⟨ua, un, uc, rfl⟩ := hnr.form
  rw [z1] at hnr
  have hg2 : W1.grownBy w2 (some (w.heap.size + 1)) := grown_below hb2
  have BR2 := Lib.hid (BR0.out.cur hg2 (by omega)); clear BR0
  have hc2 := HC0.out.below hb2
  have zw2 := hg2.size
  have hal : Below w2.heap.size w2 (w2.alloc (.cells #[.int .i64 P, .slice ua un uc] 32)) := (Below.refl _ _).alloc (Nat.le_refl _) _
  have hdg : w2.grownBy (w2.alloc (.cells #[.int .i64 P, .slice ua un uc] 32)) (some (w.heap.size + 1)) := grown_below hal
  have HC3 := Lib.hid (hc2.below hal); clear hc2 HC0 HCD hb2
  have BR3 := Lib.hid (BR2.out.after hal); clear BR2
  have BN3 := Lib.hid (NBox.new w2 (.int .i64 P) (.slice ua un uc) 32)
  have NR3 := Lib.hid (hnr.after hal); clear hnr
  have HG3 := Lib.hid (Lib.grownBy_trans hg2 hdg); clear hg2 hdg
  have z3 : (w2.alloc (.cells #[.int .i64 P, .slice ua un uc] 32)).heap.size = w2.heap.size + 1 := by simp
  clear hal
  have hune : ∀ q, (Value.slice ua un uc).ownBlock = some q → w.heap.size + 2 ≤ q := fun q hq => by
    obtain ⟨ts, xs, _, _, hr, _⟩ := NR3.out
    exact (hr.lt q hq).1
  have HUN := Lib.hid hune; clear hune
  go_wp2_with fail
  generalize (w2.alloc (.cells #[.int .i64 P, .slice ua un uc] 32)) = w3 at HC3 BR3 BN3 NR3 HG3 z3 ⊢
  refine (pick_any (w.heap.size + 1) 0 6 w3 HC3.out (by omega) (by omega) (by omega)).mono ?_
  rintro e w4 ⟨r, a4, rfl, r0, r1, ha4, hc4, hg4⟩
  obtain ⟨M, rfl⟩ : ∃ M : Nat, r = M := ⟨r.toNat, by omega⟩
  have hM : M ≤ 5 := by omega
  have BR4 := Lib.hid (BR3.out.cur hg4 (by omega)); clear BR3
  have BN4 := Lib.hid (BN3.out.cur hg4 (by omega)); clear BN3
  have NR4 := Lib.hid (NR3.out.cur hg4 (by omega)); clear NR3
  have HG4 := Lib.hid (Lib.grownBy_trans HG3.out hg4); clear HG3
  have zw4 := hg4.size
  have HC4 := Lib.hid hc4; clear hc4 hg4 HC3 r0 r1
  obtain ⟨ts, hnet, hsm⟩ := NR4.out.net (by omega) p0 p1
  have HNT := Lib.hid hnet; clear hnet
  have HSM := Lib.hid hsm; clear hsm
  have S0 : Hid (SetRow w4.heap.size 0 w4 (.slice none 0 0)) := ⟨[], Nat.le_refl _, World.ownsRow_nil _ _ _ _⟩
  go_wp2_with fail
  go_loopw [8, 9, 10] (fun lv av k wr => ∃ (j a' : Nat) (s' : ByteArray), av = .string s' ∧ k = .int .i64 j ∧ j ≤ M ∧ s'.size ≤ 1010 ∧ a' + 2 * j ≤ 20 ∧ Hid (SetRow w4.heap.size (M - j) wr lv) ∧ Hid (CurAt (w.heap.size + 1) wr a') ∧ Hid (w4.grownBy wr (some (w.heap.size + 1)))) (fun _ _ k _ => (intOf k).toNat)
  case atStart => exact ⟨M, a4, s, rfl, rfl, Nat.le_refl _, hs, by omega, S0.out.low (Nat.le_refl _) (Nat.zero_le _), HC4.out, ⟨rfl, rfl, rfl, Nat.le_refl _, fun _ _ _ => rfl⟩⟩
  case round =>
    obtain ⟨j, a', s', rfl, rfl, hj, hs', haj, hset, hcur, hgr⟩ := hrel
    have zz := hgr.out.size
    obtain ⟨la, ln, lc, rfl⟩ := id hset.out.form
    by_cases hjp : 0 < j
    case neg =>
      have t1 : decide ((0 : Int) < (j : Int)) = false := decide_eq_false (by omega)
      go_wp2_with fail
      refine (one_any (w.heap.size + 1) a' 5 wr hcur.out (by omega) (by omega) (by omega)).mono ?_
      rintro e wo ⟨rb, ao_, rfl, hao, hco, hgo⟩
      have GRo := Lib.hid (Lib.grownBy_trans hgr.out hgo)
      have SRo := Lib.hid (hset.out.cur hgo (by omega))
      have zwo := hgo.size
      have HCo := Lib.hid hco; clear hco hgo
      cases rb with
      | false =>
        have BRf := Lib.hid (BR4.out.cur GRo.out (by omega))
        have BRF := Lib.hid ((BRf.out.set0 (.int .i64 P)).set1 (.slice ua un uc))
        have NRF := Lib.hid (((NR4.out.cur GRo.out (by omega)).setLow (q := ⟨w.heap.size, 0, none⟩) (by show w.heap.size < _; omega) (.int .i64 P)).setLow (q := ⟨w.heap.size, 1, none⟩) (by show w.heap.size < _; omega) (.slice ua un uc))
        have SRF := Lib.hid ((SRo.out.setLow (q := ⟨w.heap.size, 0, none⟩) (by show w.heap.size < _; omega) (.int .i64 P)).setLow (q := ⟨w.heap.size, 1, none⟩) (by show w.heap.size < _; omega) (.slice ua un uc))
        have BEF := Lib.hid (((grown_under bel1 (Lib.grownBy_trans HG4.out GRo.out) (Nat.le_succ _)).setCell (p := ⟨w.heap.size, 0, none⟩) (Nat.le_refl _) (.int .i64 P)).setCell (p := ⟨w.heap.size, 1, none⟩) (Nat.le_refl _) (.slice ua un uc))
        have BNf := Lib.hid (BN4.out.cur GRo.out (by omega))
        obtain ⟨q0_, q1_, _, _⟩ := BNf.out
        obtain ⟨r0_, r1_, rf0, rf1⟩ := BRf.out
        go_wp2_with fail
        generalize ((wo.setCell ⟨w.heap.size, 0, none⟩ (.int .i64 P)).setCell ⟨w.heap.size, 1, none⟩ (.slice ua un uc)) = WX at BRF NRF SRF BEF ⊢
        obtain ⟨q0, q1, _, _⟩ := BRF.out
        refine bodyPost_ret (v := .tuple #[.agg #[.int .i64 P, .slice ua un uc], .string s, .slice la ln lc]) (by simp [results, Try.results40, go_sem, q0, q1]) rfl ?_
        exact ⟨_, _, _, _, rfl, p0, p1, NRF.out.low (by omega) (Nat.le_refl _), hs, SRF.out.low (by omega) (by omega), BEF.out⟩
      | true =>
        go_wp2_with fail
        refine (pick_any (w.heap.size + 1) ao_ 5 wo HCo.out (by omega) (by omega) (by omega)).mono ?_
        rintro e wp ⟨rp, ap, rfl, rp0, rp1, hap, hcp, hgp⟩
        have GRq := Lib.hid (Lib.grownBy_trans GRo.out hgp)
        have zwq := hgp.size
        obtain ⟨zq, hzq, hrq⟩ := SRo.out.cur hgp (by omega)
        clear hcp hgp HCo
        obtain ⟨ya, yc, e⟩ := hrq.form
        simp only [Value.slice.injEq] at e
        obtain ⟨rfl, rfl, rfl⟩ := e
        have HRQ := Lib.hid hrq; clear hrq
        have zgq := GRq.out.size
        have zal : (wp.alloc (.cells #[.int .i64 rp] 3)).heap.size = wp.heap.size + 1 := by simp
        have GRqa := Lib.hid (Lib.grownBy_trans GRq.out (grown_below (o := some (w.heap.size + 1)) ((Below.refl wp.heap.size wp).alloc (Nat.le_refl _) (.cells #[.int .i64 rp] 3))))
        go_wp2_with (refine wpList_append_ints rfl (.tmp 67) (.tmp 70) rfl w4.heap.size 0 _ _ _ rfl (World.ownsRow.alloc HRQ.out _) _ [rp] rfl (ints_one _ _ _) (by simp; omega) (by omega) ?_; intro v' wx hown' hgrow; obtain ⟨va, vc, rfl⟩ := owns_form hown'; have GRx := Lib.hid (grown_row GRqa.out hgrow (fun q hq => (HRQ.out.lt q hq).1)); have BNx := BN4.out.cur GRx.out (by omega); have BRx := BR4.out.cur GRx.out (by omega); obtain ⟨q0_, q1_, _, _⟩ := BNx; obtain ⟨r0_, r1_, rf0, rf1⟩ := BRx; have SRx := Lib.hid (setRow_app 10 hown' (by simp; omega)); clear hown' hgrow)
        have BRf := Lib.hid (BR4.out.cur GRx.out (by omega))
        have BRF := Lib.hid ((BRf.out.set0 (.int .i64 P)).set1 (.slice ua un uc))
        have NRF := Lib.hid (((NR4.out.cur GRx.out (by omega)).setLow (q := ⟨w.heap.size, 0, none⟩) (by show w.heap.size < _; omega) (.int .i64 P)).setLow (q := ⟨w.heap.size, 1, none⟩) (by show w.heap.size < _; omega) (.slice ua un uc))
        have SRF := Lib.hid ((SRx.out.setLow (q := ⟨w.heap.size, 0, none⟩) (by show w.heap.size < _; omega) (.int .i64 P)).setLow (q := ⟨w.heap.size, 1, none⟩) (by show w.heap.size < _; omega) (.slice ua un uc))
        have BEF := Lib.hid (((grown_under bel1 (Lib.grownBy_trans HG4.out GRx.out) (Nat.le_succ _)).setCell (p := ⟨w.heap.size, 0, none⟩) (Nat.le_refl _) (.int .i64 P)).setCell (p := ⟨w.heap.size, 1, none⟩) (Nat.le_refl _) (.slice ua un uc))
        generalize ((wx.setCell ⟨w.heap.size, 0, none⟩ (.int .i64 P)).setCell ⟨w.heap.size, 1, none⟩ (.slice ua un uc)) = WX at BRF NRF SRF BEF ⊢
        obtain ⟨q0, q1, _, _⟩ := BRF.out
        refine bodyPost_ret (v := .tuple #[.agg #[.int .i64 P, .slice ua un uc], .string s, .slice va (zq.length + 1) vc]) (by simp [results, Try.results40, go_sem, q0, q1]) rfl ?_
        exact ⟨_, _, _, _, rfl, p0, p1, NRF.out.low (by omega) (Nat.le_refl _), hs, SRF.out.low (by omega) (by omega), BEF.out⟩
    have t1 : decide ((0 : Int) < (j : Int)) = true := decide_eq_true (by omega)
    have t1' : (0 : Int) < (j : Int) := by omega
    have n0 := (BN4.out.cur hgr.out (by omega)).1
    have n1 := (BN4.out.cur hgr.out (by omega)).2.1
    go_wp2_with fail
    refine (l1Good_any _ ⟨P, ts⟩ wr (w.heap.size + 2) (HNT.out.keep (grown_carries hgr.out (Nat.lt_succ_self _))) HSM.out).mono ?_
    rintro e w5 ⟨rfl, hb5⟩
    have hg5 : wr.grownBy w5 (some (w.heap.size + 1)) := grown_below hb5
    have gr5 := Lib.hid (Lib.grownBy_trans hgr.out hg5)
    have cur5 := Lib.hid (hcur.out.below hb5)
    have set5 := Lib.hid (hset.out.after hb5)
    have z5 := hb5.size
    clear hb5 hg5 n0 n1 hgr hcur hset
    cases hgd : goodN ⟨P, ts⟩ with
    | false =>
      go_wp2_with fail
      refine (one_any (w.heap.size + 1) a' 5 w5 cur5.out (by omega) (by omega) (by omega)).mono ?_
      rintro e wo ⟨rb, ao_, rfl, hao, hco, hgo⟩
      have GRo := Lib.hid (Lib.grownBy_trans gr5.out hgo)
      have SRo := Lib.hid (set5.out.cur hgo (by omega))
      have zwo := hgo.size
      have HCo := Lib.hid hco; clear hco hgo
      cases rb with
      | false =>
        have BRf := Lib.hid (BR4.out.cur GRo.out (by omega))
        have BRF := Lib.hid ((BRf.out.set0 (.int .i64 P)).set1 (.slice ua un uc))
        have NRF := Lib.hid (((NR4.out.cur GRo.out (by omega)).setLow (q := ⟨w.heap.size, 0, none⟩) (by show w.heap.size < _; omega) (.int .i64 P)).setLow (q := ⟨w.heap.size, 1, none⟩) (by show w.heap.size < _; omega) (.slice ua un uc))
        have SRF := Lib.hid ((SRo.out.setLow (q := ⟨w.heap.size, 0, none⟩) (by show w.heap.size < _; omega) (.int .i64 P)).setLow (q := ⟨w.heap.size, 1, none⟩) (by show w.heap.size < _; omega) (.slice ua un uc))
        have BEF := Lib.hid (((grown_under bel1 (Lib.grownBy_trans HG4.out GRo.out) (Nat.le_succ _)).setCell (p := ⟨w.heap.size, 0, none⟩) (Nat.le_refl _) (.int .i64 P)).setCell (p := ⟨w.heap.size, 1, none⟩) (Nat.le_refl _) (.slice ua un uc))
        have BNf := Lib.hid (BN4.out.cur GRo.out (by omega))
        obtain ⟨q0_, q1_, _, _⟩ := BNf.out
        obtain ⟨r0_, r1_, rf0, rf1⟩ := BRf.out
        go_wp2_with fail
        generalize ((wo.setCell ⟨w.heap.size, 0, none⟩ (.int .i64 P)).setCell ⟨w.heap.size, 1, none⟩ (.slice ua un uc)) = WX at BRF NRF SRF BEF ⊢
        obtain ⟨q0, q1, _, _⟩ := BRF.out
        refine bodyPost_ret (v := .tuple #[.agg #[.int .i64 P, .slice ua un uc], .string s, .slice la ln lc]) (by simp [results, Try.results40, go_sem, q0, q1]) rfl ?_
        exact ⟨_, _, _, _, rfl, p0, p1, NRF.out.low (by omega) (Nat.le_refl _), hs, SRF.out.low (by omega) (by omega), BEF.out⟩
      | true =>
        go_wp2_with fail
        refine (pick_any (w.heap.size + 1) ao_ 5 wo HCo.out (by omega) (by omega) (by omega)).mono ?_
        rintro e wp ⟨rp, ap, rfl, rp0, rp1, hap, hcp, hgp⟩
        have GRq := Lib.hid (Lib.grownBy_trans GRo.out hgp)
        have zwq := hgp.size
        obtain ⟨zq, hzq, hrq⟩ := SRo.out.cur hgp (by omega)
        clear hcp hgp HCo
        obtain ⟨ya, yc, e⟩ := hrq.form
        simp only [Value.slice.injEq] at e
        obtain ⟨rfl, rfl, rfl⟩ := e
        have HRQ := Lib.hid hrq; clear hrq
        have zgq := GRq.out.size
        have zal : (wp.alloc (.cells #[.int .i64 rp] 3)).heap.size = wp.heap.size + 1 := by simp
        have GRqa := Lib.hid (Lib.grownBy_trans GRq.out (grown_below (o := some (w.heap.size + 1)) ((Below.refl wp.heap.size wp).alloc (Nat.le_refl _) (.cells #[.int .i64 rp] 3))))
        go_wp2_with (refine wpList_append_ints rfl (.tmp 67) (.tmp 70) rfl w4.heap.size 0 _ _ _ rfl (World.ownsRow.alloc HRQ.out _) _ [rp] rfl (ints_one _ _ _) (by simp; omega) (by omega) ?_; intro v' wx hown' hgrow; obtain ⟨va, vc, rfl⟩ := owns_form hown'; have GRx := Lib.hid (grown_row GRqa.out hgrow (fun q hq => (HRQ.out.lt q hq).1)); have BNx := BN4.out.cur GRx.out (by omega); have BRx := BR4.out.cur GRx.out (by omega); obtain ⟨q0_, q1_, _, _⟩ := BNx; obtain ⟨r0_, r1_, rf0, rf1⟩ := BRx; have SRx := Lib.hid (setRow_app 10 hown' (by simp; omega)); clear hown' hgrow)
        have BRf := Lib.hid (BR4.out.cur GRx.out (by omega))
        have BRF := Lib.hid ((BRf.out.set0 (.int .i64 P)).set1 (.slice ua un uc))
        have NRF := Lib.hid (((NR4.out.cur GRx.out (by omega)).setLow (q := ⟨w.heap.size, 0, none⟩) (by show w.heap.size < _; omega) (.int .i64 P)).setLow (q := ⟨w.heap.size, 1, none⟩) (by show w.heap.size < _; omega) (.slice ua un uc))
        have SRF := Lib.hid ((SRx.out.setLow (q := ⟨w.heap.size, 0, none⟩) (by show w.heap.size < _; omega) (.int .i64 P)).setLow (q := ⟨w.heap.size, 1, none⟩) (by show w.heap.size < _; omega) (.slice ua un uc))
        have BEF := Lib.hid (((grown_under bel1 (Lib.grownBy_trans HG4.out GRx.out) (Nat.le_succ _)).setCell (p := ⟨w.heap.size, 0, none⟩) (Nat.le_refl _) (.int .i64 P)).setCell (p := ⟨w.heap.size, 1, none⟩) (Nat.le_refl _) (.slice ua un uc))
        generalize ((wx.setCell ⟨w.heap.size, 0, none⟩ (.int .i64 P)).setCell ⟨w.heap.size, 1, none⟩ (.slice ua un uc)) = WX at BRF NRF SRF BEF ⊢
        obtain ⟨q0, q1, _, _⟩ := BRF.out
        refine bodyPost_ret (v := .tuple #[.agg #[.int .i64 P, .slice ua un uc], .string s, .slice va (zq.length + 1) vc]) (by simp [results, Try.results40, go_sem, q0, q1]) rfl ?_
        exact ⟨_, _, _, _, rfl, p0, p1, NRF.out.low (by omega) (Nat.le_refl _), hs, SRF.out.low (by omega) (by omega), BEF.out⟩
    | true =>
    have HGD := Lib.hid hgd; clear hgd
    have n0 := (BN4.out.cur gr5.out (by omega)).1
    have n1 := (BN4.out.cur gr5.out (by omega)).2.1
    go_wp2_with fail
    refine (l1Mark_any _ ⟨P, ts⟩ s' w5 (w.heap.size + 2) (HNT.out.keep (grown_carries gr5.out (Nat.lt_succ_self _))) (by omega)).mono ?_
    rintro e w6 ⟨rfl, hb6⟩
    have hg6 : w5.grownBy w6 (some (w.heap.size + 1)) := grown_below hb6
    have gr6 := Lib.hid (Lib.grownBy_trans gr5.out hg6); clear gr5
    have cur6 := Lib.hid (cur5.out.below hb6); clear cur5
    have set6 := Lib.hid (set5.out.after hb6); clear set5
    have z6 := hb6.size
    clear hb6 hg6 n0 n1
    cases hmk : markB ⟨P, ts⟩ s' with
    | false =>
      go_wp2_with fail
      refine (one_any (w.heap.size + 1) a' 5 w6 cur6.out (by omega) (by omega) (by omega)).mono ?_
      rintro e wo ⟨rb, ao_, rfl, hao, hco, hgo⟩
      have GRo := Lib.hid (Lib.grownBy_trans gr6.out hgo)
      have SRo := Lib.hid (set6.out.cur hgo (by omega))
      have zwo := hgo.size
      have HCo := Lib.hid hco; clear hco hgo
      cases rb with
      | false =>
        have BRf := Lib.hid (BR4.out.cur GRo.out (by omega))
        have BRF := Lib.hid ((BRf.out.set0 (.int .i64 P)).set1 (.slice ua un uc))
        have NRF := Lib.hid (((NR4.out.cur GRo.out (by omega)).setLow (q := ⟨w.heap.size, 0, none⟩) (by show w.heap.size < _; omega) (.int .i64 P)).setLow (q := ⟨w.heap.size, 1, none⟩) (by show w.heap.size < _; omega) (.slice ua un uc))
        have SRF := Lib.hid ((SRo.out.setLow (q := ⟨w.heap.size, 0, none⟩) (by show w.heap.size < _; omega) (.int .i64 P)).setLow (q := ⟨w.heap.size, 1, none⟩) (by show w.heap.size < _; omega) (.slice ua un uc))
        have BEF := Lib.hid (((grown_under bel1 (Lib.grownBy_trans HG4.out GRo.out) (Nat.le_succ _)).setCell (p := ⟨w.heap.size, 0, none⟩) (Nat.le_refl _) (.int .i64 P)).setCell (p := ⟨w.heap.size, 1, none⟩) (Nat.le_refl _) (.slice ua un uc))
        have BNf := Lib.hid (BN4.out.cur GRo.out (by omega))
        obtain ⟨q0_, q1_, _, _⟩ := BNf.out
        obtain ⟨r0_, r1_, rf0, rf1⟩ := BRf.out
        go_wp2_with fail
        generalize ((wo.setCell ⟨w.heap.size, 0, none⟩ (.int .i64 P)).setCell ⟨w.heap.size, 1, none⟩ (.slice ua un uc)) = WX at BRF NRF SRF BEF ⊢
        obtain ⟨q0, q1, _, _⟩ := BRF.out
        refine bodyPost_ret (v := .tuple #[.agg #[.int .i64 P, .slice ua un uc], .string s, .slice la ln lc]) (by simp [results, Try.results40, go_sem, q0, q1]) rfl ?_
        exact ⟨_, _, _, _, rfl, p0, p1, NRF.out.low (by omega) (Nat.le_refl _), hs, SRF.out.low (by omega) (by omega), BEF.out⟩
      | true =>
        go_wp2_with fail
        refine (pick_any (w.heap.size + 1) ao_ 5 wo HCo.out (by omega) (by omega) (by omega)).mono ?_
        rintro e wp ⟨rp, ap, rfl, rp0, rp1, hap, hcp, hgp⟩
        have GRq := Lib.hid (Lib.grownBy_trans GRo.out hgp)
        have zwq := hgp.size
        obtain ⟨zq, hzq, hrq⟩ := SRo.out.cur hgp (by omega)
        clear hcp hgp HCo
        obtain ⟨ya, yc, e⟩ := hrq.form
        simp only [Value.slice.injEq] at e
        obtain ⟨rfl, rfl, rfl⟩ := e
        have HRQ := Lib.hid hrq; clear hrq
        have zgq := GRq.out.size
        have zal : (wp.alloc (.cells #[.int .i64 rp] 3)).heap.size = wp.heap.size + 1 := by simp
        have GRqa := Lib.hid (Lib.grownBy_trans GRq.out (grown_below (o := some (w.heap.size + 1)) ((Below.refl wp.heap.size wp).alloc (Nat.le_refl _) (.cells #[.int .i64 rp] 3))))
        go_wp2_with (refine wpList_append_ints rfl (.tmp 67) (.tmp 70) rfl w4.heap.size 0 _ _ _ rfl (World.ownsRow.alloc HRQ.out _) _ [rp] rfl (ints_one _ _ _) (by simp; omega) (by omega) ?_; intro v' wx hown' hgrow; obtain ⟨va, vc, rfl⟩ := owns_form hown'; have GRx := Lib.hid (grown_row GRqa.out hgrow (fun q hq => (HRQ.out.lt q hq).1)); have BNx := BN4.out.cur GRx.out (by omega); have BRx := BR4.out.cur GRx.out (by omega); obtain ⟨q0_, q1_, _, _⟩ := BNx; obtain ⟨r0_, r1_, rf0, rf1⟩ := BRx; have SRx := Lib.hid (setRow_app 10 hown' (by simp; omega)); clear hown' hgrow)
        have BRf := Lib.hid (BR4.out.cur GRx.out (by omega))
        have BRF := Lib.hid ((BRf.out.set0 (.int .i64 P)).set1 (.slice ua un uc))
        have NRF := Lib.hid (((NR4.out.cur GRx.out (by omega)).setLow (q := ⟨w.heap.size, 0, none⟩) (by show w.heap.size < _; omega) (.int .i64 P)).setLow (q := ⟨w.heap.size, 1, none⟩) (by show w.heap.size < _; omega) (.slice ua un uc))
        have SRF := Lib.hid ((SRx.out.setLow (q := ⟨w.heap.size, 0, none⟩) (by show w.heap.size < _; omega) (.int .i64 P)).setLow (q := ⟨w.heap.size, 1, none⟩) (by show w.heap.size < _; omega) (.slice ua un uc))
        have BEF := Lib.hid (((grown_under bel1 (Lib.grownBy_trans HG4.out GRx.out) (Nat.le_succ _)).setCell (p := ⟨w.heap.size, 0, none⟩) (Nat.le_refl _) (.int .i64 P)).setCell (p := ⟨w.heap.size, 1, none⟩) (Nat.le_refl _) (.slice ua un uc))
        generalize ((wx.setCell ⟨w.heap.size, 0, none⟩ (.int .i64 P)).setCell ⟨w.heap.size, 1, none⟩ (.slice ua un uc)) = WX at BRF NRF SRF BEF ⊢
        obtain ⟨q0, q1, _, _⟩ := BRF.out
        refine bodyPost_ret (v := .tuple #[.agg #[.int .i64 P, .slice ua un uc], .string s, .slice va (zq.length + 1) vc]) (by simp [results, Try.results40, go_sem, q0, q1]) rfl ?_
        exact ⟨_, _, _, _, rfl, p0, p1, NRF.out.low (by omega) (Nat.le_refl _), hs, SRF.out.low (by omega) (by omega), BEF.out⟩
    | true =>
    have hms := mark_size hmk
    have HMS := Lib.hid hms; clear hms
    have HMK := Lib.hid hmk; clear hmk
    have n0 := (BN4.out.cur gr6.out (by omega)).1
    have n1 := (BN4.out.cur gr6.out (by omega)).2.1
    go_wp2_with fail
    refine (l1Enabled_any _ ⟨P, ts⟩ s' w6 (w.heap.size + 2) (HNT.out.keep (grown_carries gr6.out (Nat.lt_succ_self _))) HSM.out (fun t ht => by have h := (good_tr HGD.out ht).1; rw [← HMS.out] at h; exact h) (by omega)).mono ?_
    rintro e w7 ⟨ev, rfl, hev, hb7⟩
    obtain ⟨ea, ec, rfl⟩ := owns_form hev
    have hg7 : w6.grownBy w7 (some (w.heap.size + 1)) := grown_below hb7
    have gr7 := Lib.hid (Lib.grownBy_trans gr6.out hg7); clear gr6
    have cur7 := Lib.hid (cur6.out.below hb7); clear cur6
    have set7 := Lib.hid (set6.out.after hb7); clear set6
    have z7 := hb7.size
    clear hb7 hg7 n0 n1
    have heg : ∀ i, i < (enTo (readyOf ⟨P, ts⟩ s') ts.length).length → ∃ t : Nat, t < ts.length ∧ (enTo (readyOf ⟨P, ts⟩ s') ts.length).getD i 0 = (t : Int) := fun i hi => enTo_get hi
    have hle := enTo_length (readyOf ⟨P, ts⟩ s') ts.length
    have hts8 := HSM.out.1
    generalize (enTo (readyOf ⟨P, ts⟩ s') ts.length) = el at hev heg hle ⊢
    have HEV := Lib.hid (ints_of_owns hev); clear hev
    have HEG := Lib.hid heg; clear heg
    by_cases hl0 : el.length = 0
    case pos =>
      have t3 : ((el.length : Int) == 0) = true := by rw [beq_iff_eq]; omega
      clear hl0
      go_wp2_with fail
      refine (one_any (w.heap.size + 1) a' 5 w7 cur7.out (by omega) (by omega) (by omega)).mono ?_
      rintro e wo ⟨rb, ao_, rfl, hao, hco, hgo⟩
      have GRo := Lib.hid (Lib.grownBy_trans gr7.out hgo)
      have SRo := Lib.hid (set7.out.cur hgo (by omega))
      have zwo := hgo.size
      have HCo := Lib.hid hco; clear hco hgo
      cases rb with
      | false =>
        have BRf := Lib.hid (BR4.out.cur GRo.out (by omega))
        have BRF := Lib.hid ((BRf.out.set0 (.int .i64 P)).set1 (.slice ua un uc))
        have NRF := Lib.hid (((NR4.out.cur GRo.out (by omega)).setLow (q := ⟨w.heap.size, 0, none⟩) (by show w.heap.size < _; omega) (.int .i64 P)).setLow (q := ⟨w.heap.size, 1, none⟩) (by show w.heap.size < _; omega) (.slice ua un uc))
        have SRF := Lib.hid ((SRo.out.setLow (q := ⟨w.heap.size, 0, none⟩) (by show w.heap.size < _; omega) (.int .i64 P)).setLow (q := ⟨w.heap.size, 1, none⟩) (by show w.heap.size < _; omega) (.slice ua un uc))
        have BEF := Lib.hid (((grown_under bel1 (Lib.grownBy_trans HG4.out GRo.out) (Nat.le_succ _)).setCell (p := ⟨w.heap.size, 0, none⟩) (Nat.le_refl _) (.int .i64 P)).setCell (p := ⟨w.heap.size, 1, none⟩) (Nat.le_refl _) (.slice ua un uc))
        have BNf := Lib.hid (BN4.out.cur GRo.out (by omega))
        obtain ⟨q0_, q1_, _, _⟩ := BNf.out
        obtain ⟨r0_, r1_, rf0, rf1⟩ := BRf.out
        go_wp2_with fail
        generalize ((wo.setCell ⟨w.heap.size, 0, none⟩ (.int .i64 P)).setCell ⟨w.heap.size, 1, none⟩ (.slice ua un uc)) = WX at BRF NRF SRF BEF ⊢
        obtain ⟨q0, q1, _, _⟩ := BRF.out
        refine bodyPost_ret (v := .tuple #[.agg #[.int .i64 P, .slice ua un uc], .string s, .slice la ln lc]) (by simp [results, Try.results40, go_sem, q0, q1]) rfl ?_
        exact ⟨_, _, _, _, rfl, p0, p1, NRF.out.low (by omega) (Nat.le_refl _), hs, SRF.out.low (by omega) (by omega), BEF.out⟩
      | true =>
        go_wp2_with fail
        refine (pick_any (w.heap.size + 1) ao_ 5 wo HCo.out (by omega) (by omega) (by omega)).mono ?_
        rintro e wp ⟨rp, ap, rfl, rp0, rp1, hap, hcp, hgp⟩
        have GRq := Lib.hid (Lib.grownBy_trans GRo.out hgp)
        have zwq := hgp.size
        obtain ⟨zq, hzq, hrq⟩ := SRo.out.cur hgp (by omega)
        clear hcp hgp HCo
        obtain ⟨ya, yc, e⟩ := hrq.form
        simp only [Value.slice.injEq] at e
        obtain ⟨rfl, rfl, rfl⟩ := e
        have HRQ := Lib.hid hrq; clear hrq
        have zgq := GRq.out.size
        have zal : (wp.alloc (.cells #[.int .i64 rp] 3)).heap.size = wp.heap.size + 1 := by simp
        have GRqa := Lib.hid (Lib.grownBy_trans GRq.out (grown_below (o := some (w.heap.size + 1)) ((Below.refl wp.heap.size wp).alloc (Nat.le_refl _) (.cells #[.int .i64 rp] 3))))
        go_wp2_with (refine wpList_append_ints rfl (.tmp 67) (.tmp 70) rfl w4.heap.size 0 _ _ _ rfl (World.ownsRow.alloc HRQ.out _) _ [rp] rfl (ints_one _ _ _) (by simp; omega) (by omega) ?_; intro v' wx hown' hgrow; obtain ⟨va, vc, rfl⟩ := owns_form hown'; have GRx := Lib.hid (grown_row GRqa.out hgrow (fun q hq => (HRQ.out.lt q hq).1)); have BNx := BN4.out.cur GRx.out (by omega); have BRx := BR4.out.cur GRx.out (by omega); obtain ⟨q0_, q1_, _, _⟩ := BNx; obtain ⟨r0_, r1_, rf0, rf1⟩ := BRx; have SRx := Lib.hid (setRow_app 10 hown' (by simp; omega)); clear hown' hgrow)
        have BRf := Lib.hid (BR4.out.cur GRx.out (by omega))
        have BRF := Lib.hid ((BRf.out.set0 (.int .i64 P)).set1 (.slice ua un uc))
        have NRF := Lib.hid (((NR4.out.cur GRx.out (by omega)).setLow (q := ⟨w.heap.size, 0, none⟩) (by show w.heap.size < _; omega) (.int .i64 P)).setLow (q := ⟨w.heap.size, 1, none⟩) (by show w.heap.size < _; omega) (.slice ua un uc))
        have SRF := Lib.hid ((SRx.out.setLow (q := ⟨w.heap.size, 0, none⟩) (by show w.heap.size < _; omega) (.int .i64 P)).setLow (q := ⟨w.heap.size, 1, none⟩) (by show w.heap.size < _; omega) (.slice ua un uc))
        have BEF := Lib.hid (((grown_under bel1 (Lib.grownBy_trans HG4.out GRx.out) (Nat.le_succ _)).setCell (p := ⟨w.heap.size, 0, none⟩) (Nat.le_refl _) (.int .i64 P)).setCell (p := ⟨w.heap.size, 1, none⟩) (Nat.le_refl _) (.slice ua un uc))
        generalize ((wx.setCell ⟨w.heap.size, 0, none⟩ (.int .i64 P)).setCell ⟨w.heap.size, 1, none⟩ (.slice ua un uc)) = WX at BRF NRF SRF BEF ⊢
        obtain ⟨q0, q1, _, _⟩ := BRF.out
        refine bodyPost_ret (v := .tuple #[.agg #[.int .i64 P, .slice ua un uc], .string s, .slice va (zq.length + 1) vc]) (by simp [results, Try.results40, go_sem, q0, q1]) rfl ?_
        exact ⟨_, _, _, _, rfl, p0, p1, NRF.out.low (by omega) (Nat.le_refl _), hs, SRF.out.low (by omega) (by omega), BEF.out⟩
    have t3 : ((el.length : Int) == 0) = false := by rw [beq_eq_false_iff_ne]; omega
    go_wp2_with fail
    refine (pick_any (w.heap.size + 1) a' (el.length : Int) w7 cur7.out (by omega) (by omega) (by omega)).mono ?_
    rintro e w8 ⟨i, a8, rfl, i0, i1, ha8, hc8, hg8⟩
    obtain ⟨i, rfl⟩ : ∃ k : Nat, i = k := ⟨i.toNat, by omega⟩
    have hi : i < el.length := by omega
    have gr8 := Lib.hid (Lib.grownBy_trans gr7.out hg8); clear gr7
    have cur8 := Lib.hid hc8; clear hc8 cur7
    have set8 := Lib.hid (set7.out.cur hg8 (by omega)); clear set7
    obtain ⟨ao2, cap2, e, _, hz⟩ := HEV.out.keep (grown_carries hg8 (by omega))
    simp only [Value.slice.injEq, true_and] at e
    obtain ⟨rfl, rfl⟩ := e
    rcases hz with rfl | ⟨eb, eoff, rfl, _, hcell⟩
    · simp at hi
    have c0 := hcell i hi
    obtain ⟨t, ht, hget⟩ := HEG.out i hi
    rw [hget] at c0
    have z8 := hg8.size
    have i2 : (i : Int) < (el.length : Int) := by omega
    clear hcell hg8 i1 hget
    obtain ⟨zl, hzl, hrl⟩ := set8.out
    obtain ⟨ya, yc, e⟩ := hrl.form
    simp only [Value.slice.injEq] at e
    obtain ⟨rfl, rfl, rfl⟩ := e
    have HRL := Lib.hid hrl; clear hrl set8
    have zgq := gr8.out.size
    have zal : (w8.alloc (.cells #[.int .i64 (t : Int)] 3)).heap.size = w8.heap.size + 1 := by simp
    have GRqa := Lib.hid (Lib.grownBy_trans gr8.out (grown_below (o := some (w.heap.size + 1)) ((Below.refl w8.heap.size w8).alloc (Nat.le_refl _) (.cells #[.int .i64 (t : Int)] 3))))
    have CUqa := Lib.hid (cur8.out.below ((Below.refl w8.heap.size w8).alloc (Nat.le_refl _) (.cells #[.int .i64 (t : Int)] 3))); clear cur8
    go_wp2_with (refine wpList_append_ints rfl (.tmp 52) (.tmp 54) rfl w4.heap.size 0 _ _ _ rfl (World.ownsRow.alloc HRL.out _) _ [(t : Int)] rfl (ints_one _ _ _) (by simp; omega) (by omega) ?_; intro v' wy hown' hgrow; obtain ⟨va, vc, rfl⟩ := owns_form hown'; have GRy := Lib.hid (grown_row GRqa.out hgrow (fun q hq => (HRL.out.lt q hq).1)); have CUy := Lib.hid (CUqa.out.keep (fun x hx hx2 => hgrow.block x hx2 (fun e => (by have := (HRL.out.lt _ e.symm).1; omega)))); have BNy := BN4.out.cur GRy.out (by omega); obtain ⟨n0, n1, _, _⟩ := BNy; have SRy := Lib.hid (setRow_app (M - j + 1) hown' (by simp; omega)); clear hown' hgrow)
    obtain ⟨g1, g2, _, g4⟩ := good_tr HGD.out ht
    rw [← HMS.out] at g1 g2
    refine (l1Fire_any _ ⟨P, ts⟩ s' t wy (w.heap.size + 2) (HNT.out.keep (grown_carries GRy.out (Nat.lt_succ_self _))) HSM.out ht g1 g2 g4 (by omega)).mono ?_
    rintro e wz ⟨rfl, hbz⟩
    have hfl := fired_len s' (ts.getD t ([], []))
    have hgz : wy.grownBy wz (some (w.heap.size + 1)) := grown_below hbz
    have GRz := Lib.hid (Lib.grownBy_trans GRy.out hgz)
    have CUz := Lib.hid (CUy.out.below hbz)
    have SRz := Lib.hid (SRy.out.after hbz)
    clear hbz hgz GRy CUy SRy g1 g2 g4 n0 n1 c0
    generalize bstr (fired s' (ts.getD t ([], []))) = s2 at hfl ⊢
    generalize (postB (restB s' (ts.getD t ([], []))) (ts.getD t ([], [])).2) = ok at ⊢
    cases ok with
    | false =>
      go_wp2_with fail
      go_roundw
      case rel => exact ⟨j - 1, a8, _, rfl, by go_num, by omega, hs', by omega, SRz.out.low (Nat.le_refl _) (by omega), CUz.out, GRz.out⟩
      case measure => simp [intOf]; omega
    | true =>
      go_wp2_with fail
      go_roundw
      case rel => exact ⟨j - 1, a8, _, rfl, by go_num, by omega, by omega, by omega, SRz.out.low (Nat.le_refl _) (by omega), CUz.out, GRz.out⟩
      case measure => simp [intOf]; omega

end Go.Proofs.Ytkkfglolameogaa
