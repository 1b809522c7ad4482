/- WALK: explorer.number: a marking's number, old or new. -/
import Derived.Test.YtigkgfdnnfmmmaaVExw
import Derived.Test.YtigkgfdnnfmmmaaVSteps
import Derived.Great.BuildSlice
import Derived.Deep.RegionHeld3
namespace Go.Proofs.Ytigkgfdnnfmmmaa
open Go.RowKit Go.Maps

def RetNo (B E M : Nat) (w : World) (P : Int) (vt vv : Value) (k t : Int) (rf : Bool) (s : ExS) (m : ByteArray) (e : Ending) (w' : World) : Prop :=
  e = .returned (.int .i64 (findN s.ms m : Int)) ∧ (∃ vm', XpAt B E M w' P vt vm' vv k t rf ⟨exMs s.ms m, s.mv⟩) ∧ Below B w w'

theorem look_mk {w : World} {M n : Nat} {ms : List ByteArray} {m : ByteArray} (h : w.ownsMap (H := Unit) Try.prog 111 (plainElem Try.prog 3) M n (numSet ms)) (hm : (pad (bytes m)).length = 30) (hz : ∀ j, j < ms.length → (stN ms j).size = m.size) (hd : ∀ a b, a < b → b < ms.length → stN ms a ≠ stN ms b) :
    (Instr.lookup 82 (.map (some M)) (.agg (arr (pad (bytes m))).toArray) true).run Try.prog w = .ok (.tuple #[.int .i64 (if findN ms m < ms.length then (findN ms m : Int) else 0), .bool (decide (findN ms m < ms.length))]) w := by
  have hkey : keyOf Try.prog 111 (.agg (arr (pad (bytes m))).toArray) = some (keyP m) := keyOf_arr _ hm
  obtain ⟨v, ps, hrun, hv⟩ := h.look_ok law_mk Try.underlying82 (z := .int .i64 0) (by kernel_rfl) (plainElem_int Try.underlying3 (by decide)) hkey
  obtain ⟨c, rfl, hc, hwc⟩ := plainElem_int_inv Try.underlying3 hv
  have hc := congrArg Prod.fst hc
  simp only at hc
  rw [numSet_has hz hd] at hrun
  refine hrun.trans ?_
  by_cases hf : findN ms m < ms.length
  · rw [numSet_at hz hd hf] at hc
    simp only [DataW.lit.injEq, Lit.int.injEq, true_and] at hc
    have e1 : (if findN ms m < ms.length then (findN ms m : Int) else 0) = c := by rw [if_pos hf, hc]
    exact congrArg (fun q => Result.ok (Value.tuple #[.int .i64 q, .bool (decide (findN ms m < ms.length))]) w) e1.symm
  · have hno : has (numSet (H := Unit) ms) (keyP m) = false := by rw [numSet_has hz hd, decide_eq_false hf]
    rw [atKey_of_not_has hno] at hc
    simp only [DataW.lit.injEq, Lit.int.injEq, true_and] at hc
    have e1 : (if findN ms m < ms.length then (findN ms m : Int) else 0) = c := by rw [if_neg hf, hc]
    exact congrArg (fun q => Result.ok (Value.tuple #[.int .i64 q, .bool (decide (findN ms m < ms.length))]) w) e1.symm

theorem fill_one (X : List UInt8) (hX : X.length = 30) (cells : Array Value) (hc : cells.size = 30) : Instr.fill (fun i => some (i * 30, 30)) cells [(0, .agg (arr X).toArray)] = some (arr X).toArray := by
  have := Great.fill_whole (s := 30) (by omega) [.agg (arr X).toArray] cells (fun v hv => by
    simp only [List.mem_cons, List.not_mem_nil, or_false] at hv
    subst hv
    simp [Value.cells, arr_length, hX]) (by simp [hc])
  simpa [Value.cells] using this

theorem own_ltX {w : World} {B : Nat} {e : TypeId} {sz : Nat} {v : Value} {n : Nat} {xs : List Value} (h : w.ownsRow B e sz v n xs) : ∀ b, v.ownBlock = some b → b < w.heap.size := by
  intro b hv
  rcases h.2 with ⟨rfl, _⟩ | ⟨g, cap, cur, rfl, _, hg, _⟩
  · simp [Value.ownBlock] at hv
  · simp only [Value.ownBlock, Option.some.injEq] at hv
    subst hv
    exact (Array.getElem?_eq_some_iff.1 hg).1
theorem own_base {w : World} {B : Nat} {e : TypeId} {sz : Nat} {v : Value} {n : Nat} {xs : List Value} (h : w.ownsRow B e sz v n xs) : ∀ b, v.ownBlock = some b → B ≤ b := by
  intro b hv
  rcases h.2 with ⟨rfl, _⟩ | ⟨g, cap, cur, rfl, hb, _⟩
  · simp [Value.ownBlock] at hv
  · simp only [Value.ownBlock, Option.some.injEq] at hv
    subst hv
    exact hb
theorem TyAt.ne' {w : World} {g g' : Nat} {t t' : TypeId} (h : TyAt w g t) (h' : TyAt w g' t') (hne : t ≠ t') : g ≠ g' := by
  rintro rfl
  obtain ⟨c1, f1, e1⟩ := h
  obtain ⟨c2, f2, e2⟩ := h'
  rw [e1] at e2
  injection e2 with e2
  injection e2 with _ e2
  exact hne e2
theorem wp_mapUpdate_at {H : Type} {P : Program} {o : Oper} {a : Act} {w : World} {K : Act → World → Prop} {Q : Exit → Act → World → Prop} (m x v : Operand) (t : TypeId) (hop : o.op = Op.mapUpdate t m x v)
    (k e : TypeId) (KK : Keyed P k) (ht : P.underlying t = some (.map k e)) (R : Value → Option (DataW H × List MemPlace)) (b n : Nat) (D : DataW H)
    (hm : a.eval m = .map (some b)) (hown : w.ownsMap P k R b n D) (hn : n < maxLen) (key val : Value) (kl : Lit) (hx : a.eval x = key) (hv : a.eval v = val) (hkey : keyOf P k key = some kl)
    (d : DataW H) (ps : List MemPlace) (hval : R val = some (d, ps))
    (hK : ∀ w', w'.ownsMap P k R b (n + 1) (D.put kl d) → w.grownBy w' (some b) → K (a.put o.dst undef) w') : o.wp P a w K Q := by
  obtain ⟨w', hrun, r1, r2⟩ := hown.update KK ht hn hkey hval
  unfold Oper.wp
  simp [execOp, hop, hm, hx, hv, hrun, Result.andThen]
  exact hK w' r1 r2

set_option maxRecDepth 100000 in
set_option maxHeartbeats 2000000 in
theorem number_any (B E M : Nat) (w : World) (P : Int) (vt vm vv : Value) (k t : Int) (rf : Bool) (s : ExS) (m : ByteArray) (h : XpAt B E M w P vt vm vv k t rf s) (hm : m.size ≤ 30) (hz : ∀ j, j < s.ms.length → (stN s.ms j).size = m.size) (hd : ∀ a b, a < b → b < s.ms.length → stN s.ms a ≠ stN s.ms b) (hn : s.ms.length ≤ 1000000) (hB : B ≤ w.heap.size) :
    Calls Try.prog 91 #[.pointer (some ⟨E, 0, none⟩), .agg (arr (pad (bytes m))).toArray] w (RetNo B E M w P vt vv k t rf s m) := by
  have hXl : (pad (bytes m)).length = 30 := pad_length (by rw [bytes_length]; exact hm)
  obtain ⟨FN, hFN⟩ : ∃ q, q = findN s.ms m := ⟨_, rfl⟩
  obtain ⟨N, hN⟩ : ∃ q, q = s.ms.length := ⟨_, rfl⟩
  have hlook := fun (wx : World) (hx : wx.ownsMap (H := Unit) Try.prog 111 (plainElem Try.prog 3) M s.ms.length (numSet s.ms)) => look_mk hx hXl hz hd
  rw [← hFN, ← hN] at hlook
  have HL := Lib.hid hlook
  have HF := Lib.hid hFN
  have HN := Lib.hid hN
  have HZ := Lib.hid hz; have HD := Lib.hid hd; have HXL := Lib.hid hXl
  obtain ⟨MS, hMS⟩ : ∃ q, q = exMs s.ms m := ⟨_, rfl⟩
  have HMS := Lib.hid hMS
  unfold RetNo
  rw [← hFN, ← hMS]
  clear hlook hFN hz hd hN hMS
  obtain ⟨X, hX⟩ : ∃ q, q = pad (bytes m) := ⟨_, rfl⟩
  have HX := Lib.hid hX
  rw [← hX] at HL HXL ⊢
  clear hX hXl
  have g1 := Try.underlying111
  have g2 : (Try.prog.info? 111).map (·.size) = some (arr X).length := by rw [arr_length, HXL.out]; exact Try.infoArr
  obtain ⟨i0, hi0, hzz0⟩ := Option.map_eq_some_iff.1 Try.infoMkz
  simp only [Prod.mk.injEq] at hzz0
  obtain ⟨hz0, hsz0, hby0⟩ := hzz0
  have HI0 := Lib.hid hi0; have HZ0 := Lib.hid hz0; have HS0 := Lib.hid hsz0; have HY0 := Lib.hid hby0
  clear hi0 hz0 hsz0 hby0
  have hA := ArrAt.new w HXL.out
  have HB1 : Below w.heap.size w (w.alloc (.cells (arr X).toArray 111)) := (Below.refl _ _).alloc (Nat.le_refl _) _
  have h1 := h.after HB1
  have hob := own_ltX h.rm
  have hh := h
  go_enter Try.func91, Try.ntmps91
  go_wp2_with fail
  obtain ⟨W1, hW1⟩ : ∃ q, q = w.alloc (.cells (arr X).toArray 111) := ⟨_, rfl⟩
  rw [← hW1] at hA HB1 h1 ⊢
  clear hW1
  obtain ⟨b0, hb0⟩ : ∃ q, q = w.heap.size := ⟨_, rfl⟩
  rw [← hb0] at hA HB1 hob ⊢
  have HOB := Lib.hid hob
  clear hob
  have H1 := Lib.hid h1; have HA := Lib.hid hA; have HBW := Lib.hid HB1; have HB0 := Lib.hid hb0
  have c2 := h1.c2; have c3 := h1.c3; have mp := h1.mp
  rw [← HN.out] at mp
  have rng : W1.rangeAt b0 0 (arr X) := hA.range
  clear h1 hA HB1 hb0 h hh
  refine wp_region_held_drew (S := fun w' => w'.rangeAt b0 0 (arr X) ∧ w'.cell? ⟨E, 2, none⟩ = some (.map (some M)) ∧ w'.ownsMap (H := Unit) Try.prog 111 (plainElem Try.prog 3) M N (numSet s.ms)) (by kernel_rfl) ⟨rng, c2, mp⟩ (fun hHeld => ?_)
  refine tk0 (v := ?_) (by kernel_rfl) (by kernel_rfl) (by kernel_rfl) (by first | exact fun _ _ _ h => h | exact fun _ _ _ h => absurd h.1 (by simp)) (Or.inl ⟨by rfl, ?_⟩) (by assumption) ?_
  rotate_left 1
  focus (intro wx hSw; (try dsimp only at hSw); go_simp; try (with_reducible rfl))
  try simp only [Act.put, List.setIfInBounds_toArray, List.set_cons_zero, List.set_cons_succ]
  refine tk1 (v := ?_) (by kernel_rfl) (by kernel_rfl) (by kernel_rfl) (by first | exact fun _ _ _ h => h | exact fun _ _ _ h => absurd h.1 (by simp)) (Or.inl ⟨by rfl, ?_⟩) (by assumption) ?_
  rotate_left 1
  focus (intro wx hSw; (try dsimp only at hSw); go_simp; try (with_reducible rfl))
  try simp only [Act.put, List.setIfInBounds_toArray, List.set_cons_zero, List.set_cons_succ]
  refine tk2 (v := ?_) (by kernel_rfl) (by kernel_rfl) (by kernel_rfl) (by first | exact fun _ _ _ h => h | exact fun _ _ _ h => absurd h.1 (by simp)) (Or.inl ⟨by rfl, ?_⟩) (by assumption) ?_
  rotate_left 1
  focus (intro wx hSw; (try dsimp only at hSw); go_simp; try (with_reducible rfl))
  try simp only [Act.put, List.setIfInBounds_toArray, List.set_cons_zero, List.set_cons_succ]
  refine tk3 (v := ?_) (by kernel_rfl) (by kernel_rfl) (by kernel_rfl) (by first | exact fun _ _ _ h => h | exact fun _ _ _ h => absurd h.1 (by simp)) (Or.inl ⟨by rfl, ?_⟩) (by assumption) ?_
  rotate_left 1
  focus (intro wx hSw; (try dsimp only at hSw); go_simp; try (with_reducible rfl))
  try simp only [Act.put, List.setIfInBounds_toArray, List.set_cons_zero, List.set_cons_succ]
  refine tk4 (by kernel_rfl) (by kernel_rfl) (by kernel_rfl) (by first | exact fun _ _ _ h => h | exact fun _ _ _ h => absurd h.1 (by simp)) (yieldsIf_load_mid (by rfl) _ _ rfl _ _ rfl _ _ (fun w hS => hS.1) g1 rfl g2) (by assumption) ?_
  try simp only [Act.put, List.setIfInBounds_toArray, List.set_cons_zero, List.set_cons_succ]
  refine tk5 (v := .tuple #[.int .i64 (if FN < N then (FN : Int) else 0), .bool (decide (FN < N))]) (by kernel_rfl) (by kernel_rfl) (by kernel_rfl) (by first | exact fun _ _ _ h => h | exact fun _ _ _ h => absurd h.1 (by simp)) (Or.inl ⟨by rfl, ?_⟩) (by assumption) ?_
  · intro wx hSw
    have hrun := HL.out wx hSw.2.2
    go_simp
  try simp only [Act.put, List.setIfInBounds_toArray, List.set_cons_zero, List.set_cons_succ]
  refine tk6 (v := ?_) (by kernel_rfl) (by kernel_rfl) (by kernel_rfl) (by first | exact fun _ _ _ h => h | exact fun _ _ _ h => absurd h.1 (by simp)) (Or.inl ⟨by rfl, ?_⟩) (by assumption) ?_
  rotate_left 1
  focus (intro wx hSw; (try dsimp only at hSw); go_simp; try (with_reducible rfl))
  try simp only [Act.put, List.setIfInBounds_toArray, List.set_cons_zero, List.set_cons_succ]
  refine tk7 (v := ?_) (by kernel_rfl) (by kernel_rfl) (by kernel_rfl) (by first | exact fun _ _ _ h => h | exact fun _ _ _ h => absurd h.1 (by simp)) (Or.inl ⟨by rfl, ?_⟩) (by assumption) ?_
  rotate_left 1
  focus (intro wx hSw; (try dsimp only at hSw); go_simp; try (with_reducible rfl))
  try simp only [Act.put, List.setIfInBounds_toArray, List.set_cons_zero, List.set_cons_succ]
  refine tk8 (v := ?_) (by kernel_rfl) (by kernel_rfl) (by kernel_rfl) (by first | exact fun _ _ _ h => h | exact fun _ _ _ h => absurd h.1 (by simp)) (Or.inl ⟨by rfl, ?_⟩) (by assumption) ?_
  rotate_left 1
  focus (intro wx hSw; (try dsimp only at hSw); go_simp; try (with_reducible rfl))
  try simp only [Act.put, List.setIfInBounds_toArray, List.set_cons_zero, List.set_cons_succ]
  refine tk9 (v := ?_) (by kernel_rfl) (by kernel_rfl) (by kernel_rfl) (by first | exact fun _ _ _ h => h | exact fun _ _ _ h => absurd h.1 (by simp)) (Or.inl ⟨by rfl, ?_⟩) (by assumption) ?_
  rotate_left 1
  focus (intro wx hSw; (try dsimp only at hSw); go_simp; try (with_reducible rfl))
  try simp only [Act.put, List.setIfInBounds_toArray, List.set_cons_zero, List.set_cons_succ]
  refine tk10 (v := ?_) (by kernel_rfl) (by kernel_rfl) (by kernel_rfl) (by first | exact fun _ _ _ h => h | exact fun _ _ _ h => absurd h.1 (by simp)) (Or.inl ⟨by rfl, ?_⟩) (by assumption) ?_
  rotate_left 1
  focus (intro wx hSw; (try dsimp only at hSw); go_simp; try (with_reducible rfl))
  try simp only [Act.put, List.setIfInBounds_toArray, List.set_cons_zero, List.set_cons_succ]
  refine wpAnyH_done (by kernel_rfl) ?_ _
  by_cases hf : FN < N
  · rw [if_pos hf, decide_eq_true hf]
    have hms : MS = s.ms := by rw [HMS.out]; unfold exMs; rw [if_pos (by rw [← HF.out, ← HN.out]; exact hf)]
    go_wp2_with fail
    go_ret
    exact ⟨rfl, ⟨vm, by rw [hms]; exact H1.out.after (Below.refl _ _).drew⟩, (HBW.out.mono (by rw [HB0.out]; exact hB)).drew⟩
  rw [if_neg hf, decide_eq_false hf]
  have hms : MS = s.ms ++ [m] := by rw [HMS.out]; unfold exMs; rw [if_neg (by rw [← HF.out, ← HN.out]; exact hf)]
  have hFN2 : FN = N := by rw [HF.out, HN.out]; exact (findN_new (by rw [← HF.out, ← HN.out]; exact hf)).1
  have HMS2 := Lib.hid hms; have HFN2 := Lib.hid hFN2
  clear hms hf hFN2
  have H1d := Lib.hid (H1.out.after (Below.refl W1.heap.size W1).drew)
  have HAd : Hid (ArrAt W1.drew b0 X) := HA.out.after (Below.refl W1.heap.size W1).drew
  have HBd := Lib.hid (HBW.out.drew)
  have hform : ∃ a c, vm = .slice a N c := by
    rcases H1.out.rm.2 with ⟨rfl, hn0⟩ | ⟨g, cap, cur, rfl, _⟩
    · exact ⟨none, 0, by rw [HN.out, hn0]⟩
    · exact ⟨_, _, by rw [HN.out]⟩
  obtain ⟨am, cm, rfl⟩ := hform
  generalize W1.drew = W2 at H1d HAd HBd ⊢
  have c2 := H1d.out.c2; have c3 := H1d.out.c3; have mp := H1d.out.mp
  have rng : W2.rangeAt b0 0 (arr X) := HAd.out.range
  rw [← HN.out] at mp
  go_wp2_with fail
  refine wp_region_held_drew (S := fun w' => w'.rangeAt b0 0 (arr X) ∧ w'.cell? ⟨E, 2, none⟩ = some (.map (some M))) (by kernel_rfl) ⟨rng, c2⟩ (fun hHeld => ?_)
  refine tk0 (v := ?_) (by kernel_rfl) (by kernel_rfl) (by kernel_rfl) (by first | exact fun _ _ _ h => h | exact fun _ _ _ h => absurd h.1 (by simp)) (Or.inl ⟨by rfl, ?_⟩) (by assumption) ?_
  rotate_left 1
  focus (intro wx hSw; (try dsimp only at hSw); go_simp; try (with_reducible rfl))
  try simp only [Act.put, List.setIfInBounds_toArray, List.set_cons_zero, List.set_cons_succ]
  refine tk1 (v := ?_) (by kernel_rfl) (by kernel_rfl) (by kernel_rfl) (by first | exact fun _ _ _ h => h | exact fun _ _ _ h => absurd h.1 (by simp)) (Or.inl ⟨by rfl, ?_⟩) (by assumption) ?_
  rotate_left 1
  focus (intro wx hSw; (try dsimp only at hSw); go_simp; try (with_reducible rfl))
  try simp only [Act.put, List.setIfInBounds_toArray, List.set_cons_zero, List.set_cons_succ]
  refine tk2 (v := ?_) (by kernel_rfl) (by kernel_rfl) (by kernel_rfl) (by first | exact fun _ _ _ h => h | exact fun _ _ _ h => absurd h.1 (by simp)) (Or.inl ⟨by rfl, ?_⟩) (by assumption) ?_
  rotate_left 1
  focus (intro wx hSw; (try dsimp only at hSw); go_simp; try (with_reducible rfl))
  try simp only [Act.put, List.setIfInBounds_toArray, List.set_cons_zero, List.set_cons_succ]
  refine tk3 (v := ?_) (by kernel_rfl) (by kernel_rfl) (by kernel_rfl) (by first | exact fun _ _ _ h => h | exact fun _ _ _ h => absurd h.1 (by simp)) (Or.inl ⟨by rfl, ?_⟩) (by assumption) ?_
  rotate_left 1
  focus (intro wx hSw; (try dsimp only at hSw); go_simp; try (with_reducible rfl))
  try simp only [Act.put, List.setIfInBounds_toArray, List.set_cons_zero, List.set_cons_succ]
  refine tk4 (by kernel_rfl) (by kernel_rfl) (by kernel_rfl) (by first | exact fun _ _ _ h => h | exact fun _ _ _ h => absurd h.1 (by simp)) (yieldsIf_load_mid (by rfl) _ _ rfl _ _ rfl _ _ (fun w hS => hS.1) g1 rfl g2) (by assumption) ?_
  try simp only [Act.put, List.setIfInBounds_toArray, List.set_cons_zero, List.set_cons_succ]
  refine tk5 (v := ?_) (by kernel_rfl) (by kernel_rfl) (by kernel_rfl) (by first | exact fun _ _ _ h => h | exact fun _ _ _ h => absurd h.1 (by simp)) (Or.inl ⟨by rfl, ?_⟩) (by assumption) ?_
  rotate_left 1
  focus (intro wx hSw; (try dsimp only at hSw); go_simp; try (with_reducible rfl))
  try simp only [Act.put, List.setIfInBounds_toArray, List.set_cons_zero, List.set_cons_succ]
  refine rd6 (by kernel_rfl) (fun K hK => ?_)
  rw [if_pos (by rfl)]
  have hkey : keyOf Try.prog 111 (.agg (arr X).toArray) = some (keyP m) := by rw [HX.out]; exact keyOf_arr _ (by rw [← HX.out]; exact HXL.out)
  have mpd : W2.drew.ownsMap (H := Unit) Try.prog 111 (plainElem Try.prog 3) M N (numSet s.ms) := mp.drew
  refine wp_mapUpdate_at _ _ _ 82 rfl 111 3 law_mk Try.underlying82 (plainElem Try.prog 3) M N _ rfl mpd (by rw [HN.out]; unfold maxLen; omega) _ (.int .i64 (N : Int)) (keyP m) rfl rfl hkey (.lit (.int .i64 (N : Int))) [] (plainElem_int Try.underlying3 (WalkArith.wf_i64 (by rw [HN.out]; omega))) ?_
  intro w3 hm3 hg3
  rw [HN.out] at hm3
  have hmid := (H1d.out.after (Below.refl W2.heap.size W2).drew).pushM hg3 hm3
  have hMb : M ≠ b0 := map_ty mp ⟨_, _, HAd.out.1⟩
  have hA3 : ArrAt w3 b0 X := ⟨(hg3.block b0 HAd.out.lt (by intro e; injection e with e; exact hMb e.symm)).trans HAd.out.1, HXL.out⟩
  have rng3 : w3.rangeAt b0 0 (arr X) := hA3.range
  have HB3 := Lib.hid ((HBd.out.drew.mono (by rw [HB0.out]; exact hB) : Below B w W2.drew).grown hg3 (by have := HB0.out; have := HBd.out.size; simp; omega) (fun j hj => by cases hj; exact H1d.out.bM))
  have HM3 := Lib.hid hmid
  have HA3 := Lib.hid hA3
  have c2 := hmid.c2
  refine hK.out _ _ ⟨rng3, c2⟩ (fun hHeld => ?_)
  clear hK K
  try simp only [Act.put, List.setIfInBounds_toArray, List.set_cons_zero, List.set_cons_succ]
  refine wpAnyH_done (by kernel_rfl) ?_ _
  clear hm3 hg3 hmid hMb mp mpd hA3 c3 rng HAd HBd H1d hHeld
  have c3 := HM3.out.c3
  go_wp2_with fail
  -- REGION 5
  have hne : E ≠ b0 := by
    intro e
    have := HM3.out.ty
    rw [e] at this
    exact absurd rfl (this.ne' ⟨_, _, HA3.out.1⟩ (by decide))
  have HNE := Lib.hid hne
  clear hne
  refine wp_region_held_drew (S := fun w' => w'.rangeAt b0 0 (arr X)) (by kernel_rfl) rng3 (fun hHeld => ?_)
  obtain ⟨w4, hw4⟩ : ∃ q, q = w3.drew := ⟨_, rfl⟩
  rw [← hw4] at hHeld ⊢
  have HM4 : Hid (XpMid B E M w4 P vt (.slice am N cm) vv k t rf s m) := by rw [hw4]; exact HM3.out.alloc (Below.refl w3.heap.size w3).drew
  have HB4 : Hid (Below B w w4) := by rw [hw4]; exact HB3.out.drew
  have rng4 : w4.rangeAt b0 0 (arr X) := by rw [hw4]; exact rng3
  have c4 : w4.cell? ⟨E, 3, none⟩ = some (.slice am N cm) := by rw [hw4]; exact c3
  clear hw4 rng3 c3 c2 HM3 HB3
  refine tk0 (v := ?_) (by kernel_rfl) (by kernel_rfl) (by kernel_rfl) (by first | exact fun _ _ _ h => h | exact fun _ _ _ h => absurd h.1 (by simp)) (Or.inl ⟨by rfl, ?_⟩) (by assumption) ?_
  rotate_left 1
  focus (intro wx hSw; (try dsimp only at hSw); go_simp; try (with_reducible rfl))
  try simp only [Act.put, List.setIfInBounds_toArray, List.set_cons_zero, List.set_cons_succ]
  refine tk1 (v := ?_) (by kernel_rfl) (by kernel_rfl) (by kernel_rfl) (by first | exact fun _ _ _ h => h | exact fun _ _ _ h => absurd h.1 (by simp)) (Or.inl ⟨by rfl, ?_⟩) (by assumption) ?_
  rotate_left 1
  focus (intro wx hSw; (try dsimp only at hSw); go_simp; try (with_reducible rfl))
  try simp only [Act.put, List.setIfInBounds_toArray, List.set_cons_zero, List.set_cons_succ]
  refine tk2 (v := ?_) (by kernel_rfl) (by kernel_rfl) (by kernel_rfl) (by first | exact fun _ _ _ h => h | exact fun _ _ _ h => absurd h.1 (by simp)) (Or.inl ⟨by rfl, ?_⟩) (by assumption) ?_
  rotate_left 1
  focus (intro wx hSw; (try dsimp only at hSw); go_simp; try (with_reducible rfl))
  try simp only [Act.put, List.setIfInBounds_toArray, List.set_cons_zero, List.set_cons_succ]
  refine tk3 (v := ?_) (by kernel_rfl) (by kernel_rfl) (by kernel_rfl) (by first | exact fun _ _ _ h => h | exact fun _ _ _ h => absurd h.1 (by simp)) (Or.inl ⟨by rfl, ?_⟩) (by assumption) ?_
  rotate_left 1
  focus (intro wx hSw; (try dsimp only at hSw); go_simp; try (with_reducible rfl))
  try simp only [Act.put, List.setIfInBounds_toArray, List.set_cons_zero, List.set_cons_succ]
  refine tk5 (by kernel_rfl) (by kernel_rfl) (by kernel_rfl) (by first | exact fun _ _ _ h => h | exact fun _ _ _ h => absurd h.1 (by simp)) (yieldsIf_load_mid (by rfl) _ _ rfl _ _ rfl _ _ (fun w hS => hS) g1 rfl g2) (by assumption) ?_
  try simp only [Act.put, List.setIfInBounds_toArray, List.set_cons_zero, List.set_cons_succ]
  refine wpAnyH_ready (rs := [4, 6]) (by kernel_rfl) (by simp) ?_
  refine ar4 (fun K hK => ?_) ?_
  · skip
    go_simp
    refine hK.out _ _ rng4 (fun hHeld => ?_)
    clear hK K
    try simp only [Act.put, List.setIfInBounds_toArray, List.set_cons_zero, List.set_cons_succ]
    refine rd6 (by kernel_rfl) (fun K hK => ?_)
    rw [if_pos (by rfl)]
    refine wp_buildSlice 83 111 1 _ rfl (arr X).toArray i0 _ Try.underlying83 HI0.out HZ0.out (by rw [HS0.out]; decide) (by rw [HS0.out]; decide) (by rw [HS0.out]; simp only [List.map_toArray, List.map_cons, List.map_nil, List.toList_toArray]; exact fill_one X HXL.out _ (by simp)) ?_
    have hb4 : Below w4.heap.size w4 (w4.alloc (.cells (arr X).toArray 111)) := (Below.refl _ _).alloc (Nat.le_refl _) _
    have hA5 := ArrAt.new w4 HXL.out
    generalize w4.alloc (.cells (arr X).toArray 111) = w5 at hb4 hA5 ⊢
    have HM5 := Lib.hid (HM4.out.alloc hb4)
    have HA5 := Lib.hid hA5
    have rng5 : w5.rangeAt b0 0 (arr X) := fun j v hv => cell_carry (rng4 j v hv) (Carries.of 0 hb4)
    have c5 := cell_carry c4 (Carries.of 0 hb4)
    have HB5 := Lib.hid (HB4.out.trans (hb4.mono (by have := HB4.out.size; omega)))
    have z45 : w4.heap.size ≤ w5.heap.size := hb4.size
    refine hK.out _ _ rng5 (fun hHeld => ?_)
    clear hK K
    try simp only [Act.put, List.setIfInBounds_toArray, List.set_cons_zero, List.set_cons_succ]
    have hrow := HM5.out.rm
    have hrow' : w5.ownsRow B 111 30 (.slice am N cm) N (mkCells s.ms) := by rw [HN.out]; rw [← HN.out]; have h := hrow; unfold KRow at h; rw [← HN.out] at h; exact h
    refine rd7 (by kernel_rfl) (fun K hK => ?_)
    refine step_append_lies _ (by rfl) _ _ _ (by rfl) B 111 i0 _ 30 30 Try.underlying83 HI0.out HZ0.out HS0.out HY0.out (by simp [arr_length, zeros_length, Value.cells]) (by omega) (.slice am N cm) N (mkCells s.ms) (by rfl) hrow' ⟨w4.heap.size, 0, none⟩ 1 1 (arr X) (by rfl) (by rw [arr_length, HXL.out]) (fun j u hj => by rw [Addr.add_mid]; exact HA5.out.range j u hj) (fun u hu => arr_one _ u hu) (by omega) (by rw [HN.out]; unfold maxLen; omega) (by rw [HN.out]; omega) (by have := HB4.out.size; omega) w5.heap.size rfl ?_
    intro g kg w6 hown hgrow hat hlt6
    have hk6 : KRow B w6 (.slice (some ⟨g, 0, none⟩) (N + 1) kg) (s.ms ++ [m]) := by
      unfold KRow
      rw [mkCells_append, List.length_append, ← HN.out]
      show w6.ownsRow B _ 30 _ (N + 1) (mkCells s.ms ++ (mkC m ++ []))
      rw [List.append_nil]
      unfold mkC
      rw [← HX.out]
      exact hown
    have hE6 := owns_ne hrow HM5.out.ty (by decide)
    have kf6 : w6.frozen? ⟨E, 3, none⟩ = false := (World.frozen?_of_block (a := ⟨E, 3, none⟩) (hgrow.block E HM5.out.ty.lt hE6)).trans (HM5.out.fr 3)
    have c6 := hgrow.cell c5 hE6
    have rng6 : w6.rangeAt b0 0 (arr X) := fun j v hv => hgrow.cell (rng5 j v hv) (fun e => absurd (HOB.out b0 e.symm) (Nat.lt_irrefl _))
    have HXP := Lib.hid (HM5.out.row hgrow hk6)
    have HB6 := Lib.hid (HB5.out.grown hgrow (by have := HB5.out.size; omega) (fun j hj => own_base hrow j hj))
    clear hown hgrow hat hk6 hrow hrow'
    refine hK.out _ _ rng6 (fun hHeld => ?_)
    clear hK K
    try simp only [Act.put, List.setIfInBounds_toArray, List.set_cons_zero, List.set_cons_succ]
    refine tk8 (v := ?_) (by kernel_rfl) (by kernel_rfl) (by kernel_rfl) (by first | exact fun _ _ _ h => h | exact fun _ _ _ h => absurd h.1 (by simp)) (Or.inl ⟨by rfl, ?_⟩) (by assumption) ?_
    rotate_left 1
    focus (intro wx hSw; (try dsimp only at hSw); go_simp; try (with_reducible rfl))
    try simp only [Act.put, List.setIfInBounds_toArray, List.set_cons_zero, List.set_cons_succ]
    refine tk9 (v := ?_) (by kernel_rfl) (by kernel_rfl) (by kernel_rfl) (by first | exact fun _ _ _ h => h | exact fun _ _ _ h => absurd h.1 (by simp)) (Or.inl ⟨by rfl, ?_⟩) (by assumption) ?_
    rotate_left 1
    focus (intro wx hSw; (try dsimp only at hSw); go_simp; try (with_reducible rfl))
    try simp only [Act.put, List.setIfInBounds_toArray, List.set_cons_zero, List.set_cons_succ]
    refine rd10 (by kernel_rfl) (fun K hK => ?_)
    go_simp
    have rng7 : (w6.setCell ⟨E, 3, none⟩ (.slice (some ⟨g, 0, none⟩) (N + 1) kg)).rangeAt b0 0 (arr X) := fun j v hv => (World.cell?_setCell_other w6 _ _ _ (by intro e; injection e with e1 e2; exact HNE.out e1)).trans (rng6 j v hv)
    refine hK.out _ _ rng7 (fun hHeld => ?_)
    clear hK K
    try simp only [Act.put, List.setIfInBounds_toArray, List.set_cons_zero, List.set_cons_succ]
    refine wpAnyH_done (by kernel_rfl) ?_ _
    have hre : (findN s.ms m : Int) = (N : Int) := by rw [← HF.out, HFN2.out]
    go_wp2_with fail
    go_ret
    exact ⟨congrArg (fun q : Nat => Ending.returned (.int .i64 (q : Int))) HFN2.out.symm, ⟨_, by rw [HMS2.out]; exact HXP.out⟩, HB6.out.setCell (p := ⟨E, 3, none⟩) HM5.out.bE _⟩
  refine ar6 (fun K hK => ?_) AllReadyH.nil
  rw [if_pos (by rfl)]
  refine wp_buildSlice 83 111 1 _ rfl (arr X).toArray i0 _ Try.underlying83 HI0.out HZ0.out (by rw [HS0.out]; decide) (by rw [HS0.out]; decide) (by rw [HS0.out]; simp only [List.map_toArray, List.map_cons, List.map_nil, List.toList_toArray]; exact fill_one X HXL.out _ (by simp)) ?_
  have hb4 : Below w4.heap.size w4 (w4.alloc (.cells (arr X).toArray 111)) := (Below.refl _ _).alloc (Nat.le_refl _) _
  have hA5 := ArrAt.new w4 HXL.out
  generalize w4.alloc (.cells (arr X).toArray 111) = w5 at hb4 hA5 ⊢
  have HM5 := Lib.hid (HM4.out.alloc hb4)
  have HA5 := Lib.hid hA5
  have rng5 : w5.rangeAt b0 0 (arr X) := fun j v hv => cell_carry (rng4 j v hv) (Carries.of 0 hb4)
  have c5 := cell_carry c4 (Carries.of 0 hb4)
  have HB5 := Lib.hid (HB4.out.trans (hb4.mono (by have := HB4.out.size; omega)))
  have z45 : w4.heap.size ≤ w5.heap.size := hb4.size
  refine hK.out _ _ rng5 (fun hHeld => ?_)
  clear hK K
  try simp only [Act.put, List.setIfInBounds_toArray, List.set_cons_zero, List.set_cons_succ]
  refine rd4 (by kernel_rfl) (fun K hK => ?_)
  go_simp
  refine hK.out _ _ rng5 (fun hHeld => ?_)
  clear hK K
  try simp only [Act.put, List.setIfInBounds_toArray, List.set_cons_zero, List.set_cons_succ]
  have hrow := HM5.out.rm
  have hrow' : w5.ownsRow B 111 30 (.slice am N cm) N (mkCells s.ms) := by rw [HN.out]; rw [← HN.out]; have h := hrow; unfold KRow at h; rw [← HN.out] at h; exact h
  refine rd7 (by kernel_rfl) (fun K hK => ?_)
  refine step_append_lies _ (by rfl) _ _ _ (by rfl) B 111 i0 _ 30 30 Try.underlying83 HI0.out HZ0.out HS0.out HY0.out (by simp [arr_length, zeros_length, Value.cells]) (by omega) (.slice am N cm) N (mkCells s.ms) (by rfl) hrow' ⟨w4.heap.size, 0, none⟩ 1 1 (arr X) (by rfl) (by rw [arr_length, HXL.out]) (fun j u hj => by rw [Addr.add_mid]; exact HA5.out.range j u hj) (fun u hu => arr_one _ u hu) (by omega) (by rw [HN.out]; unfold maxLen; omega) (by rw [HN.out]; omega) (by have := HB4.out.size; omega) w5.heap.size rfl ?_
  intro g kg w6 hown hgrow hat hlt6
  have hk6 : KRow B w6 (.slice (some ⟨g, 0, none⟩) (N + 1) kg) (s.ms ++ [m]) := by
    unfold KRow
    rw [mkCells_append, List.length_append, ← HN.out]
    show w6.ownsRow B _ 30 _ (N + 1) (mkCells s.ms ++ (mkC m ++ []))
    rw [List.append_nil]
    unfold mkC
    rw [← HX.out]
    exact hown
  have hE6 := owns_ne hrow HM5.out.ty (by decide)
  have kf6 : w6.frozen? ⟨E, 3, none⟩ = false := (World.frozen?_of_block (a := ⟨E, 3, none⟩) (hgrow.block E HM5.out.ty.lt hE6)).trans (HM5.out.fr 3)
  have c6 := hgrow.cell c5 hE6
  have rng6 : w6.rangeAt b0 0 (arr X) := fun j v hv => hgrow.cell (rng5 j v hv) (fun e => absurd (HOB.out b0 e.symm) (Nat.lt_irrefl _))
  have HXP := Lib.hid (HM5.out.row hgrow hk6)
  have HB6 := Lib.hid (HB5.out.grown hgrow (by have := HB5.out.size; omega) (fun j hj => own_base hrow j hj))
  clear hown hgrow hat hk6 hrow hrow'
  refine hK.out _ _ rng6 (fun hHeld => ?_)
  clear hK K
  try simp only [Act.put, List.setIfInBounds_toArray, List.set_cons_zero, List.set_cons_succ]
  refine tk8 (v := ?_) (by kernel_rfl) (by kernel_rfl) (by kernel_rfl) (by first | exact fun _ _ _ h => h | exact fun _ _ _ h => absurd h.1 (by simp)) (Or.inl ⟨by rfl, ?_⟩) (by assumption) ?_
  rotate_left 1
  focus (intro wx hSw; (try dsimp only at hSw); go_simp; try (with_reducible rfl))
  try simp only [Act.put, List.setIfInBounds_toArray, List.set_cons_zero, List.set_cons_succ]
  refine tk9 (v := ?_) (by kernel_rfl) (by kernel_rfl) (by kernel_rfl) (by first | exact fun _ _ _ h => h | exact fun _ _ _ h => absurd h.1 (by simp)) (Or.inl ⟨by rfl, ?_⟩) (by assumption) ?_
  rotate_left 1
  focus (intro wx hSw; (try dsimp only at hSw); go_simp; try (with_reducible rfl))
  try simp only [Act.put, List.setIfInBounds_toArray, List.set_cons_zero, List.set_cons_succ]
  refine rd10 (by kernel_rfl) (fun K hK => ?_)
  go_simp
  have rng7 : (w6.setCell ⟨E, 3, none⟩ (.slice (some ⟨g, 0, none⟩) (N + 1) kg)).rangeAt b0 0 (arr X) := fun j v hv => (World.cell?_setCell_other w6 _ _ _ (by intro e; injection e with e1 e2; exact HNE.out e1)).trans (rng6 j v hv)
  refine hK.out _ _ rng7 (fun hHeld => ?_)
  clear hK K
  try simp only [Act.put, List.setIfInBounds_toArray, List.set_cons_zero, List.set_cons_succ]
  refine wpAnyH_done (by kernel_rfl) ?_ _
  have hre : (findN s.ms m : Int) = (N : Int) := by rw [← HF.out, HFN2.out]
  go_wp2_with fail
  go_ret
  exact ⟨congrArg (fun q : Nat => Ending.returned (.int .i64 (q : Int))) HFN2.out.symm, ⟨_, by rw [HMS2.out]; exact HXP.out⟩, HB6.out.setCell (p := ⟨E, 3, none⟩) HM5.out.bE _⟩

end Go.Proofs.Ytigkgfdnnfmmmaa
