/- WALK: explorer.fire. -/
import Derived.Test.YtigkgfdnnfmmmaaVExo
import Derived.Test.YtigkgfdnnfmmmaaVPair
import Derived.Test.YtigkgfdnnfmmmaaVEna
import Derived.Test.YtigkgfdnnfmmmaaVByte
import Derived.Test.YtigkgfdnnfmmmaaVStepsx
import Derived.Deep.CutRange
namespace Go.Proofs.Ytigkgfdnnfmmmaa
open Go.RowKit Go.Maps

/-- what a firing comes to: it was not enabled; it was refused; one move more -/
def RetFr (n : NetD) (B E M : Nat) (w : World) (P : Int) (vt : Value) (k t : Nat) (s : ExS) (e : Ending) (w' : World) : Prop :=
  Below B w w' ∧
  ((readyOf n (stN s.ms k) t = false ∧ e = .returned (.bool true) ∧ ∃ vm vv, XpAt B E M w' P vt vm vv k t false s) ∨
   (readyOf n (stN s.ms k) t = true ∧ exOk n (stN s.ms k) t = false ∧ e = .returned (.bool false) ∧ ∃ vm vv, XpAt B E M w' P vt vm vv k t true s) ∨
   (readyOf n (stN s.ms k) t = true ∧ exOk n (stN s.ms k) t = true ∧ e = .returned (.bool true) ∧ ∃ vm vv, XpAt B E M w' P vt vm vv k t false (exAdd s k t (exNext n (stN s.ms k) t))))

theorem ex_parts {n : NetD} {s : ByteArray} {t : Nat} (hg : goodN n = true) (hm : markB n s = true) (ht : t < n.ts.length) (hr : readyOf n s t = true) :
    ftOk (pad (bytes s)) (n.ts.getD t ([], [])) = exOk n s t ∧ (exOk n s t = true → ftA (pad (bytes s)) (n.ts.getD t ([], [])) = pad (bytes (exNext n s t))) := by
  obtain ⟨i1, i2, _, _⟩ := good_tr hg ht
  rw [← mark_size hm] at i1 i2
  obtain ⟨X, hX⟩ : ∃ X, X = n.ts.getD t ([], []) := ⟨_, rfl⟩
  have hXe : exTr n t = X := hX.symm
  unfold readyOf at hr
  unfold exOk exNext
  rw [hXe]
  rw [← hX] at i1 i2 hr ⊢
  have hl := bytes_length s
  have b1 : ∀ p ∈ X.1, 0 ≤ p ∧ p < (bytes s).length := fun p hp => ⟨i1.nonneg p hp, by rw [hl]; exact i1.lt p hp⟩
  have b2 : ∀ p ∈ X.2, 0 ≤ p ∧ p < (restB s X).length := fun p hp => ⟨i2.nonneg p hp, by unfold restB; rw [putAll_length, hl]; exact i2.lt p hp⟩
  have h30 : (bytes s).length ≤ 30 := by
    have := mark_size hm
    have := (goodN_parts hg).2.1
    rw [hl]; omega
  have hdr : Dig (restB s X) := (mark_dig hm).put (Or.inl rfl) i1.nonneg
  have r1 : (putAll 49 (pad (bytes s)) X.1 == pad (bytes s)) = true := by
    rw [putAll_same (fun p hp => ⟨(b1 p hp).1, by have := b1 p hp; rw [pad_length h30]; omega⟩), ← hr]
    unfold readyB
    rw [all_decide]
    exact decide_eq_decide.2 ⟨fun h p hp => by have := h p hp; rwa [pad_getD (by have := b1 p hp; omega)] at this, fun h p hp => by rw [pad_getD (by have := b1 p hp; omega)]; exact h p hp⟩
  have r2 : putAll 48 (pad (bytes s)) X.1 = pad (restB s X) := pad_putAll 48 _ _ b1
  have hrl : (restB s X).length ≤ 30 := by unfold restB; rw [putAll_length]; exact h30
  have r3 : (putAll 48 (pad (restB s X)) X.2 == pad (restB s X)) = postB (restB s X) X.2 := by
    rw [putAll_same (fun p hp => ⟨(b2 p hp).1, by have := b2 p hp; rw [pad_length hrl]; omega⟩), postB_eq hdr b2]
    exact decide_eq_decide.2 ⟨fun h p hp => by have := h p hp; rwa [pad_getD (by have := b2 p hp; omega)] at this, fun h p hp => by rw [pad_getD (by have := b2 p hp; omega)]; exact h p hp⟩
  have hok : ftOk (pad (bytes s)) X = postB (restB s X) X.2 := by
    unfold ftOk
    rw [r1, r2, r3]
    simp
  refine ⟨hok, fun h => ?_⟩
  unfold ftA
  rw [hok, if_pos h, r2, pad_putAll 49 _ _ b2, bytes_bstr]

theorem sev_keep {w w' : World} {a1 a3 a5 a6 d0 d1 : Addr} {v1 v3 v5 v6 u0 u1 : Value} {g o : Nat} {cs : List Value} (h : w.cell? a1 = some v1 ∧ w.cell? a3 = some v3 ∧ w.cell? a5 = some v5 ∧ w.cell? a6 = some v6 ∧ w.rangeAt g o cs ∧ w.cell? d0 = some u0 ∧ w.cell? d1 = some u1) (hc : Carries 0 w w') :
    w'.cell? a1 = some v1 ∧ w'.cell? a3 = some v3 ∧ w'.cell? a5 = some v5 ∧ w'.cell? a6 = some v6 ∧ w'.rangeAt g o cs ∧ w'.cell? d0 = some u0 ∧ w'.cell? d1 = some u1 :=
  ⟨cell_carry h.1 hc, cell_carry h.2.1 hc, cell_carry h.2.2.1 hc, cell_carry h.2.2.2.1 hc, fun j v hv => cell_carry (h.2.2.2.2.1 j v hv) hc, cell_carry h.2.2.2.2.2.1 hc, cell_carry h.2.2.2.2.2.2 hc⟩
theorem putTwo {Q X : World} {g : Nat} {a b x0 x1 : Value} (h : (Q.setCell ⟨g, 0, none⟩ a).setCell ⟨g, 1, none⟩ b = X) (c0 : Q.cell? ⟨g, 0, none⟩ = some x0) (c1 : Q.cell? ⟨g, 1, none⟩ = some x1) :
    X.cell? ⟨g, 0, none⟩ = some a ∧ X.cell? ⟨g, 1, none⟩ = some b ∧ X.heap.size = Q.heap.size ∧ (∀ B w0, Below B w0 Q → B ≤ g → Below B w0 X) ∧ (∀ k xs, ArrAt Q k xs → k ≠ g → ArrAt X k xs) := by
  subst h
  refine ⟨?_, ?_, by simp, fun B w0 hb hg => (hb.setCell hg _).setCell hg _, fun k xs hk hne => (hk.other _ _ hne).other _ _ hne⟩
  · simp [go_sem, c0, c1]
  · simp [go_sem, c0, c1]

set_option maxRecDepth 100000 in
set_option maxHeartbeats 4000000 in
theorem fire_any (n : NetD) (E M : Nat) (w0 w : World) (P : Int) (vt vm vv : Value) (k t : Nat) (s : ExS) (lo : Nat) (h : XpAt w0.heap.size E M w P vt vm vv k t false s) (hb : Below w0.heap.size w0 w) (hT : TrsAt lo w0 vt n.ts) (hS : SmallTrs n.ts) (hg : goodN n = true) (hk : k < s.ms.length) (ht : t < n.ts.length)
    (hmk : ∀ a, a < s.ms.length → markB n (stN s.ms a) = true) (hd : ∀ a b, a < b → b < s.ms.length → stN s.ms a ≠ stN s.ms b) (hn : s.ms.length ≤ 1000) (hmv : s.mv.length ≤ 1000000) :
    Calls Try.prog 92 #[.pointer (some ⟨E, 0, none⟩)] w (RetFr n w0.heap.size E M w P vt k t s) := by
  have h30 : ∀ a, a < s.ms.length → (stN s.ms a).size ≤ 30 := fun a ha => by
    have := mark_size (hmk a ha)
    have := (goodN_parts hg).2.1
    omega
  obtain ⟨N, hN⟩ : ∃ q, q = s.ms.length := ⟨_, rfl⟩
  obtain ⟨ts, hts⟩ : ∃ q, q = n.ts := ⟨_, rfl⟩
  obtain ⟨g, cm, hvm, hcm, hBg⟩ := h.rm.form (by omega)
  subst hvm
  have hrng0 := h.rm.range h30 hk
  obtain ⟨X, hX⟩ : ∃ q, q = pad (bytes (stN s.ms k)) := ⟨_, rfl⟩
  have hXl : X.length = 30 := by rw [hX]; exact pad_length (by rw [bytes_length]; exact h30 k hk)
  have hrng : w.rangeAt g (k * 30) (arr X) := by rw [hX]; exact hrng0
  obtain ⟨at_, ct, hvt, hct, hz⟩ := hT
  subst hvt
  rcases hz with hz | ⟨b, off, rfl, hlo, hcell⟩
  · rw [hz] at ht; exact absurd ht (Nat.not_lt_zero _)
  obtain ⟨y0, y1, d0, d1, hy⟩ := hcell t ht
  have sx := hS.2 t ht
  have ix := goodN_in hg ht
  obtain ⟨T, hTT⟩ : ∃ q, q = n.ts.getD t ([], []) := ⟨_, rfl⟩
  rw [← hTT] at hy sx ix
  have hC := Carries.of lo hb
  have d0 := hC _ _ hlo d0
  have d1 := hC _ _ hlo d1
  have hyw := hy.keep hC
  obtain ⟨⟨xa0, xk0, rfl, _, _⟩, ⟨xa1, xk1, rfl, _, _⟩⟩ := id hy
  have e1 := h.c1; have e3 := h.c3; have e5 := h.c5; have e6 := h.c6
  rw [← hN] at e3 hk hcm
  rw [← hts] at e1 ht hct
  have g1 := Try.underlying111
  have g2 : (Try.prog.info? 111).map (·.size) = some (arr X).length := by rw [arr_length, hXl]; exact Try.infoArr
  have HX := Lib.hid hX; have HXL := Lib.hid hXl; have HH := Lib.hid h; have HB := Lib.hid hb; have HMK := Lib.hid hmk; have HD := Lib.hid hd; have HN := Lib.hid hN; have HTS := Lib.hid hts; have HY := Lib.hid hyw; have HIX := Lib.hid ix; have HTT := Lib.hid hTT; have HG := Lib.hid hg; have H30 := Lib.hid h30
  obtain ⟨s1, s2⟩ := sx
  clear hX hXl h hb hmk hd hN hts hy hyw ix hTT hg h30 hrng0 hC hcell hlo hct hcm hS
  generalize hRN : readyOf n (stN s.ms k) t = RN
  go_enter Try.func92, Try.ntmps92
  go_wp2_with fail
  go_cut [3, 4] from 3 to 28 (fun vA vB wx => ∃ ga gb, vA = .pointer (some ⟨ga, 0, none⟩) ∧ vB = .pointer (some ⟨gb, 0, none⟩) ∧ ArrAt wx ga X ∧ wx.cell? ⟨gb, 0, none⟩ = some (.slice xa0 T.1.length xk0) ∧ wx.cell? ⟨gb, 1, none⟩ = some (.slice xa1 T.2.length xk1) ∧ Below w.heap.size w wx ∧ w.heap.size ≤ ga ∧ w.heap.size ≤ gb)
  case first =>
    refine wp_region_held_drew (S := fun w' => w'.cell? ⟨E, 1, none⟩ = some (.slice (some ⟨b, off, none⟩) ts.length ct) ∧ w'.cell? ⟨E, 3, none⟩ = some (.slice (some ⟨g, 0, none⟩) N cm) ∧ w'.cell? ⟨E, 5, none⟩ = some (.int .i64 (k : Int)) ∧ w'.cell? ⟨E, 6, none⟩ = some (.int .i64 (t : Int)) ∧ w'.rangeAt g (k * 30) (arr X) ∧ w'.cell? ⟨b, off + t * 2, none⟩ = some (.slice xa0 T.1.length xk0) ∧ w'.cell? ⟨b, off + t * 2 + 1, none⟩ = some (.slice xa1 T.2.length xk1)) (by kernel_rfl) ⟨e1, e3, e5, e6, hrng, d0, d1⟩ (fun hHeld => ?_)
    refine tk0 (v := ?_) (by kernel_rfl) (by kernel_rfl) (by kernel_rfl) (by first | exact fun _ _ _ h => h | exact fun _ _ _ h => absurd h.1 (by simp)) (Or.inl ⟨by rfl, ?_⟩) (by assumption) ?_
    rotate_left 1
    focus (intro wx hSw; (try dsimp only at hSw); go_simp; try (with_reducible rfl))
    try simp only [Act.put, List.setIfInBounds_toArray, List.set_cons_zero, List.set_cons_succ]
    refine tk1 (v := ?_) (by kernel_rfl) (by kernel_rfl) (by kernel_rfl) (by first | exact fun _ _ _ h => h | exact fun _ _ _ h => absurd h.1 (by simp)) (Or.inl ⟨by rfl, ?_⟩) (by assumption) ?_
    rotate_left 1
    focus (intro wx hSw; (try dsimp only at hSw); go_simp; try (with_reducible rfl))
    try simp only [Act.put, List.setIfInBounds_toArray, List.set_cons_zero, List.set_cons_succ]
    refine tk2 (v := ?_) (by kernel_rfl) (by kernel_rfl) (by kernel_rfl) (by first | exact fun _ _ _ h => h | exact fun _ _ _ h => absurd h.1 (by simp)) (Or.inl ⟨by rfl, ?_⟩) (by assumption) ?_
    rotate_left 1
    focus (intro wx hSw; (try dsimp only at hSw); go_simp; try (with_reducible rfl))
    try simp only [Act.put, List.setIfInBounds_toArray, List.set_cons_zero, List.set_cons_succ]
    refine tk3 (v := ?_) (by kernel_rfl) (by kernel_rfl) (by kernel_rfl) (by first | exact fun _ _ _ h => h | exact fun _ _ _ h => absurd h.1 (by simp)) (Or.inl ⟨by rfl, ?_⟩) (by assumption) ?_
    rotate_left 1
    focus (intro wx hSw; (try dsimp only at hSw); go_simp; try (with_reducible rfl))
    try simp only [Act.put, List.setIfInBounds_toArray, List.set_cons_zero, List.set_cons_succ]
    refine tk4 (v := ?_) (by kernel_rfl) (by kernel_rfl) (by kernel_rfl) (by first | exact fun _ _ _ h => h | exact fun _ _ _ h => absurd h.1 (by simp)) (Or.inl ⟨by rfl, ?_⟩) (by assumption) ?_
    rotate_left 1
    focus (intro wx hSw; (try dsimp only at hSw); go_simp; try (with_reducible rfl))
    try simp only [Act.put, List.setIfInBounds_toArray, List.set_cons_zero, List.set_cons_succ]
    refine tk5 (v := ?_) (by kernel_rfl) (by kernel_rfl) (by kernel_rfl) (by first | exact fun _ _ _ h => h | exact fun _ _ _ h => absurd h.1 (by simp)) (Or.inl ⟨by rfl, ?_⟩) (by assumption) ?_
    rotate_left 1
    focus (intro wx hSw; (try dsimp only at hSw); go_simp; try (with_reducible rfl))
    try simp only [Act.put, List.setIfInBounds_toArray, List.set_cons_zero, List.set_cons_succ]
    refine tk6 (v := ?_) (by kernel_rfl) (by kernel_rfl) (by kernel_rfl) (by first | exact fun _ _ _ h => h | exact fun _ _ _ h => absurd h.1 (by simp)) (Or.inl ⟨by rfl, ?_⟩) (by assumption) ?_
    rotate_left 1
    focus (intro wx hSw; (try dsimp only at hSw); go_simp; try (with_reducible rfl))
    try simp only [Act.put, List.setIfInBounds_toArray, List.set_cons_zero, List.set_cons_succ]
    refine tk7 (v := ?_) (by kernel_rfl) (by kernel_rfl) (by kernel_rfl) (by first | exact fun _ _ _ h => h | exact fun _ _ _ h => absurd h.1 (by simp)) (Or.inl ⟨by rfl, ?_⟩) (by assumption) ?_
    rotate_left 1
    focus (intro wx hSw; (try dsimp only at hSw); go_simp; try (with_reducible rfl))
    try simp only [Act.put, List.setIfInBounds_toArray, List.set_cons_zero, List.set_cons_succ]
    refine tk8 (v := ?_) (by kernel_rfl) (by kernel_rfl) (by kernel_rfl) (by first | exact fun _ _ _ h => h | exact fun _ _ _ h => absurd h.1 (by simp)) (Or.inl ⟨by rfl, ?_⟩) (by assumption) ?_
    rotate_left 1
    focus (intro wx hSw; (try dsimp only at hSw); go_simp; try (with_reducible rfl))
    try simp only [Act.put, List.setIfInBounds_toArray, List.set_cons_zero, List.set_cons_succ]
    refine tk9 (by kernel_rfl) (by kernel_rfl) (by kernel_rfl) (by first | exact fun _ _ _ h => h | exact fun _ _ _ h => absurd h.1 (by simp)) (yieldsIf_load_mid (by rfl) _ _ rfl _ _ rfl _ _ (fun w hS => hS.2.2.2.2.1) g1 rfl g2) (by assumption) ?_
    try simp only [Act.put, List.setIfInBounds_toArray, List.set_cons_zero, List.set_cons_succ]
    refine tk10 (v := ?_) (by kernel_rfl) (by kernel_rfl) (by kernel_rfl) (by first | exact fun _ _ _ h => h | exact fun _ _ _ h => absurd h.1 (by simp)) (Or.inl ⟨by rfl, ?_⟩) (by assumption) ?_
    rotate_left 1
    focus (intro wx hSw; (try dsimp only at hSw); go_simp; try (with_reducible rfl))
    try simp only [Act.put, List.setIfInBounds_toArray, List.set_cons_zero, List.set_cons_succ]
    refine tk11 (v := ?_) (by kernel_rfl) (by kernel_rfl) (by kernel_rfl) (by first | exact fun _ _ _ h => h | exact fun _ _ _ h => absurd h.1 (by simp)) (Or.inl ⟨by rfl, ?_⟩) (by assumption) ?_
    rotate_left 1
    focus (intro wx hSw; (try dsimp only at hSw); go_simp; try (with_reducible rfl))
    try simp only [Act.put, List.setIfInBounds_toArray, List.set_cons_zero, List.set_cons_succ]
    refine tk12 (v := ?_) (by kernel_rfl) (by kernel_rfl) (by kernel_rfl) (by first | exact fun _ _ _ h => h | exact fun _ _ _ h => absurd h.1 (by simp)) (Or.inl ⟨by rfl, ?_⟩) (by assumption) ?_
    rotate_left 1
    focus (intro wx hSw; (try dsimp only at hSw); go_simp; try (with_reducible rfl))
    try simp only [Act.put, List.setIfInBounds_toArray, List.set_cons_zero, List.set_cons_succ]
    refine tk13 (v := ?_) (by kernel_rfl) (by kernel_rfl) (by kernel_rfl) (by first | exact fun _ _ _ h => h | exact fun _ _ _ h => absurd h.1 (by simp)) (Or.inl ⟨by rfl, ?_⟩) (by assumption) ?_
    rotate_left 1
    focus (intro wx hSw; (try dsimp only at hSw); go_simp; try (with_reducible rfl))
    try simp only [Act.put, List.setIfInBounds_toArray, List.set_cons_zero, List.set_cons_succ]
    refine tk14 (v := ?_) (by kernel_rfl) (by kernel_rfl) (by kernel_rfl) (by first | exact fun _ _ _ h => h | exact fun _ _ _ h => absurd h.1 (by simp)) (Or.inl ⟨by rfl, ?_⟩) (by assumption) ?_
    rotate_left 1
    focus (intro wx hSw; (try dsimp only at hSw); go_simp; try (with_reducible rfl))
    try simp only [Act.put, List.setIfInBounds_toArray, List.set_cons_zero, List.set_cons_succ]
    refine tk15 (v := ?_) (by kernel_rfl) (by kernel_rfl) (by kernel_rfl) (by first | exact fun _ _ _ h => h | exact fun _ _ _ h => absurd h.1 (by simp)) (Or.inl ⟨by rfl, ?_⟩) (by assumption) ?_
    rotate_left 1
    focus (intro wx hSw; (try dsimp only at hSw); go_simp; try (with_reducible rfl))
    try simp only [Act.put, List.setIfInBounds_toArray, List.set_cons_zero, List.set_cons_succ]
    refine tk16 (v := ?_) (by kernel_rfl) (by kernel_rfl) (by kernel_rfl) (by first | exact fun _ _ _ h => h | exact fun _ _ _ h => absurd h.1 (by simp)) (Or.inl ⟨by rfl, ?_⟩) (by assumption) ?_
    rotate_left 1
    focus (intro wx hSw; (try dsimp only at hSw); go_simp; try (with_reducible rfl))
    try simp only [Act.put, List.setIfInBounds_toArray, List.set_cons_zero, List.set_cons_succ]
    refine tk17 (v := ?_) (by kernel_rfl) (by kernel_rfl) (by kernel_rfl) (by first | exact fun _ _ _ h => h | exact fun _ _ _ h => absurd h.1 (by simp)) (Or.inl ⟨by rfl, ?_⟩) (by assumption) ?_
    rotate_left 1
    focus (intro wx hSw; (try dsimp only at hSw); go_simp; try (with_reducible rfl))
    try simp only [Act.put, List.setIfInBounds_toArray, List.set_cons_zero, List.set_cons_succ]
    refine tk18 (v := ?_) (by kernel_rfl) (by kernel_rfl) (by kernel_rfl) (by first | exact fun _ _ _ h => h | exact fun _ _ _ h => absurd h.1 (by simp)) (Or.inl ⟨by rfl, ?_⟩) (by assumption) ?_
    rotate_left 1
    focus (intro wx hSw; (try dsimp only at hSw); go_simp; try (with_reducible rfl))
    try simp only [Act.put, List.setIfInBounds_toArray, List.set_cons_zero, List.set_cons_succ]
    refine tk19 (v := ?_) (by kernel_rfl) (by kernel_rfl) (by kernel_rfl) (by first | exact fun _ _ _ h => h | exact fun _ _ _ h => absurd h.1 (by simp)) (Or.inl ⟨by rfl, ?_⟩) (by assumption) ?_
    rotate_left 1
    focus (intro wx hSw; (try dsimp only at hSw); go_simp; try (with_reducible rfl))
    try simp only [Act.put, List.setIfInBounds_toArray, List.set_cons_zero, List.set_cons_succ]
    refine tk20 (v := ?_) (by kernel_rfl) (by kernel_rfl) (by kernel_rfl) (by first | exact fun _ _ _ h => h | exact fun _ _ _ h => absurd h.1 (by simp)) (Or.inl ⟨by rfl, ?_⟩) (by assumption) ?_
    rotate_left 1
    focus (intro wx hSw; (try dsimp only at hSw); go_simp; try (with_reducible rfl))
    try simp only [Act.put, List.setIfInBounds_toArray, List.set_cons_zero, List.set_cons_succ]
    have hS7 : w.cell? ⟨E, 1, none⟩ = some (.slice (some ⟨b, off, none⟩) ts.length ct) ∧ w.cell? ⟨E, 3, none⟩ = some (.slice (some ⟨g, 0, none⟩) N cm) ∧ w.cell? ⟨E, 5, none⟩ = some (.int .i64 (k : Int)) ∧ w.cell? ⟨E, 6, none⟩ = some (.int .i64 (t : Int)) ∧ w.rangeAt g (k * 30) (arr X) ∧ w.cell? ⟨b, off + t * 2, none⟩ = some (.slice xa0 T.1.length xk0) ∧ w.cell? ⟨b, off + t * 2 + 1, none⟩ = some (.slice xa1 T.2.length xk1) := ⟨e1, e3, e5, e6, hrng, d0, d1⟩
    have bel_0 : Below w.heap.size w w.drew := (Below.refl _ _).drew
    have hS_0 := sev_keep hS7 (Carries.of 0 bel_0)
    generalize w.drew = Q0 at bel_0 hS_0 hHeld ⊢
    refine wpAnyH_ready (rs := [21, 22]) (by kernel_rfl) (by simp) ?_
    refine ar21 (fun K hK => ?_) ?_
    · skip
      go_simp
      have hbb : Below Q0.heap.size Q0 (Q0.alloc (.cells (arr zeros).toArray 111)) := (Below.refl _ _).alloc (Nat.le_refl _) _
      have arr_1 := ArrAt.new Q0 zeros_length
      have z_1 : Q0.heap.size < (Q0.alloc (.cells (arr zeros).toArray 111)).heap.size := by simp
      change K _ (Q0.alloc (.cells (arr zeros).toArray 111))
      generalize Q0.alloc (.cells (arr zeros).toArray 111) = Q1 at hbb arr_1 z_1 ⊢
      have bel_1 : Below w.heap.size w Q1 := bel_0.trans (hbb.mono bel_0.size)
      have hS_1 := sev_keep hS7 (Carries.of 0 bel_1)
      refine hK.out _ _ hS_1 (fun hHeld => ?_)
      clear hK K
      try simp only [Act.put, List.setIfInBounds_toArray, List.set_cons_zero, List.set_cons_succ]
      refine rd22 (by kernel_rfl) (fun K hK => ?_)
      go_simp
      have hbb : Below Q1.heap.size Q1 (Q1.alloc (.cells #[.slice none 0 0, .slice none 0 0] 116)) := (Below.refl _ _).alloc (Nat.le_refl _) _
      have t0_2 : (Q1.alloc (.cells #[.slice none 0 0, .slice none 0 0] 116)).cell? ⟨Q1.heap.size, 0, none⟩ = some (.slice none 0 0) := by simp
      have t1_2 : (Q1.alloc (.cells #[.slice none 0 0, .slice none 0 0] 116)).cell? ⟨Q1.heap.size, 1, none⟩ = some (.slice none 0 0) := by simp
      have tf0_2 : (Q1.alloc (.cells #[.slice none 0 0, .slice none 0 0] 116)).frozen? ⟨Q1.heap.size, 0, none⟩ = false := by simp
      have tf1_2 : (Q1.alloc (.cells #[.slice none 0 0, .slice none 0 0] 116)).frozen? ⟨Q1.heap.size, 1, none⟩ = false := by simp
      have zt_2 : Q1.heap.size < (Q1.alloc (.cells #[.slice none 0 0, .slice none 0 0] 116)).heap.size := by simp
      generalize (Q1.alloc (.cells #[.slice none 0 0, .slice none 0 0] 116)) = Q2 at hbb t0_2 t1_2 tf0_2 tf1_2 zt_2 ⊢
      have bel_2 : Below w.heap.size w Q2 := bel_1.trans (hbb.mono bel_1.size)
      have hS_2 := sev_keep hS7 (Carries.of 0 bel_2)
      have arr_2 := arr_1.after hbb
      have hne_2 : Q0.heap.size ≠ Q1.heap.size := by have := arr_1.lt; omega
      refine hK.out _ _ hS_2 (fun hHeld => ?_)
      clear hK K
      try simp only [Act.put, List.setIfInBounds_toArray, List.set_cons_zero, List.set_cons_succ]
      refine rd23 (by kernel_rfl) (fun K hK => ?_)
      rw [if_pos (by rfl)]
      refine wp_store_row 111 _ _ rfl Q0.heap.size _ rfl rfl _ _ arr_2.1 (infoArr HXL.out) (by simp [arr_length, HXL.out, zeros_length]) (arr_all _) ?_
      have hba : w.heap.size ≤ Q0.heap.size := bel_0.size
      have arr_3 : ArrAt (Q2.setRow Q0.heap.size (arr X).toArray) Q0.heap.size X := ⟨setRow_heap _ _ _ _ _ _ arr_2.1, HXL.out⟩
      have bel_3 : Below w.heap.size w (Q2.setRow Q0.heap.size (arr X).toArray) := below_setRow bel_2 hba _
      have hS_3 := sev_keep hS7 (Carries.of 0 bel_3)
      have t0_3 : (Q2.setRow Q0.heap.size (arr X).toArray).cell? ⟨Q1.heap.size, 0, none⟩ = some (.slice none 0 0) := (World.cell?_of_block (setRow_other _ _ _ _ (fun e => hne_2 e.symm))).trans t0_2
      have t1_3 : (Q2.setRow Q0.heap.size (arr X).toArray).cell? ⟨Q1.heap.size, 1, none⟩ = some (.slice none 0 0) := (World.cell?_of_block (setRow_other _ _ _ _ (fun e => hne_2 e.symm))).trans t1_2
      have tf0_3 : (Q2.setRow Q0.heap.size (arr X).toArray).frozen? ⟨Q1.heap.size, 0, none⟩ = false := (World.frozen?_of_block (a := ⟨Q1.heap.size, 0, none⟩) (setRow_other _ _ _ _ (fun e => hne_2 e.symm))).trans tf0_2
      have tf1_3 : (Q2.setRow Q0.heap.size (arr X).toArray).frozen? ⟨Q1.heap.size, 1, none⟩ = false := (World.frozen?_of_block (a := ⟨Q1.heap.size, 1, none⟩) (setRow_other _ _ _ _ (fun e => hne_2 e.symm))).trans tf1_2
      have zt_3 : Q1.heap.size < (Q2.setRow Q0.heap.size (arr X).toArray).heap.size := by rw [size_setRow]; exact zt_2
      have hne_3 := hne_2
      generalize Q2.setRow Q0.heap.size (arr X).toArray = Q3 at *
      refine hK.out _ _ hS_3 (fun hHeld => ?_)
      clear hK K
      try simp only [Act.put, List.setIfInBounds_toArray, List.set_cons_zero, List.set_cons_succ]
      refine rd24 (by kernel_rfl) (fun K hK => ?_)
      go_simp
      have hba : w.heap.size ≤ Q0.heap.size := bel_0.size
      have hbt : w.heap.size ≤ Q1.heap.size := bel_1.size
      generalize hWX : (Q3.setCell ⟨Q1.heap.size, 0, none⟩ (.slice xa0 T.1.length xk0)).setCell ⟨Q1.heap.size, 1, none⟩ (.slice xa1 T.2.length xk1) = Q4
      obtain ⟨r0, r1, qz, qb, qa⟩ := putTwo hWX t0_3 t1_3
      clear hWX
      have bel_4 := qb _ _ bel_3 hbt
      have hS_4 := sev_keep hS7 (Carries.of 0 bel_4)
      have arr_4 := qa _ _ arr_3 hne_3
      refine hK.out _ _ hS_4 (fun hHeld => ?_)
      clear hK K
      try simp only [Act.put, List.setIfInBounds_toArray, List.set_cons_zero, List.set_cons_succ]
      refine wpAnyH_done (by kernel_rfl) ?_ _
      go_wp2_with fail
      go_meet
      case rel => exact ⟨_, _, rfl, rfl, arr_4, r0, r1, bel_4, hba, hbt⟩
    refine ar22 (fun K hK => ?_) AllReadyH.nil
    go_simp
    have hbb : Below Q0.heap.size Q0 (Q0.alloc (.cells #[.slice none 0 0, .slice none 0 0] 116)) := (Below.refl _ _).alloc (Nat.le_refl _) _
    have t0_5 : (Q0.alloc (.cells #[.slice none 0 0, .slice none 0 0] 116)).cell? ⟨Q0.heap.size, 0, none⟩ = some (.slice none 0 0) := by simp
    have t1_5 : (Q0.alloc (.cells #[.slice none 0 0, .slice none 0 0] 116)).cell? ⟨Q0.heap.size, 1, none⟩ = some (.slice none 0 0) := by simp
    have tf0_5 : (Q0.alloc (.cells #[.slice none 0 0, .slice none 0 0] 116)).frozen? ⟨Q0.heap.size, 0, none⟩ = false := by simp
    have tf1_5 : (Q0.alloc (.cells #[.slice none 0 0, .slice none 0 0] 116)).frozen? ⟨Q0.heap.size, 1, none⟩ = false := by simp
    have zt_5 : Q0.heap.size < (Q0.alloc (.cells #[.slice none 0 0, .slice none 0 0] 116)).heap.size := by simp
    generalize (Q0.alloc (.cells #[.slice none 0 0, .slice none 0 0] 116)) = Q5 at hbb t0_5 t1_5 tf0_5 tf1_5 zt_5 ⊢
    have bel_5 : Below w.heap.size w Q5 := bel_0.trans (hbb.mono bel_0.size)
    have hS_5 := sev_keep hS7 (Carries.of 0 bel_5)
    refine hK.out _ _ hS_5 (fun hHeld => ?_)
    clear hK K
    try simp only [Act.put, List.setIfInBounds_toArray, List.set_cons_zero, List.set_cons_succ]
    refine rd21 (by kernel_rfl) (fun K hK => ?_)
    go_simp
    have hbb : Below Q5.heap.size Q5 (Q5.alloc (.cells (arr zeros).toArray 111)) := (Below.refl _ _).alloc (Nat.le_refl _) _
    have arr_6 := ArrAt.new Q5 zeros_length
    have z_6 : Q5.heap.size < (Q5.alloc (.cells (arr zeros).toArray 111)).heap.size := by simp
    change K _ (Q5.alloc (.cells (arr zeros).toArray 111))
    generalize Q5.alloc (.cells (arr zeros).toArray 111) = Q6 at hbb arr_6 z_6 ⊢
    have bel_6 : Below w.heap.size w Q6 := bel_5.trans (hbb.mono bel_5.size)
    have hS_6 := sev_keep hS7 (Carries.of 0 bel_6)
    have t0_6 := cell_carry t0_5 (Carries.of 0 hbb)
    have t1_6 := cell_carry t1_5 (Carries.of 0 hbb)
    have tf0_6 := (hbb.frozen (p := ⟨Q0.heap.size, 0, none⟩) (by simp; exact zt_5)).trans tf0_5
    have tf1_6 := (hbb.frozen (p := ⟨Q0.heap.size, 1, none⟩) (by simp; exact zt_5)).trans tf1_5
    have zt_6 : Q0.heap.size < Q6.heap.size := Nat.lt_of_lt_of_le zt_5 hbb.size
    have hne_6 : Q5.heap.size ≠ Q0.heap.size := by omega
    refine hK.out _ _ hS_6 (fun hHeld => ?_)
    clear hK K
    try simp only [Act.put, List.setIfInBounds_toArray, List.set_cons_zero, List.set_cons_succ]
    refine rd23 (by kernel_rfl) (fun K hK => ?_)
    rw [if_pos (by rfl)]
    refine wp_store_row 111 _ _ rfl Q5.heap.size _ rfl rfl _ _ arr_6.1 (infoArr HXL.out) (by simp [arr_length, HXL.out, zeros_length]) (arr_all _) ?_
    have hba : w.heap.size ≤ Q5.heap.size := bel_5.size
    have arr_7 : ArrAt (Q6.setRow Q5.heap.size (arr X).toArray) Q5.heap.size X := ⟨setRow_heap _ _ _ _ _ _ arr_6.1, HXL.out⟩
    have bel_7 : Below w.heap.size w (Q6.setRow Q5.heap.size (arr X).toArray) := below_setRow bel_6 hba _
    have hS_7 := sev_keep hS7 (Carries.of 0 bel_7)
    have t0_7 : (Q6.setRow Q5.heap.size (arr X).toArray).cell? ⟨Q0.heap.size, 0, none⟩ = some (.slice none 0 0) := (World.cell?_of_block (setRow_other _ _ _ _ (fun e => hne_6 e.symm))).trans t0_6
    have t1_7 : (Q6.setRow Q5.heap.size (arr X).toArray).cell? ⟨Q0.heap.size, 1, none⟩ = some (.slice none 0 0) := (World.cell?_of_block (setRow_other _ _ _ _ (fun e => hne_6 e.symm))).trans t1_6
    have tf0_7 : (Q6.setRow Q5.heap.size (arr X).toArray).frozen? ⟨Q0.heap.size, 0, none⟩ = false := (World.frozen?_of_block (a := ⟨Q0.heap.size, 0, none⟩) (setRow_other _ _ _ _ (fun e => hne_6 e.symm))).trans tf0_6
    have tf1_7 : (Q6.setRow Q5.heap.size (arr X).toArray).frozen? ⟨Q0.heap.size, 1, none⟩ = false := (World.frozen?_of_block (a := ⟨Q0.heap.size, 1, none⟩) (setRow_other _ _ _ _ (fun e => hne_6 e.symm))).trans tf1_6
    have zt_7 : Q0.heap.size < (Q6.setRow Q5.heap.size (arr X).toArray).heap.size := by rw [size_setRow]; exact zt_6
    have hne_7 := hne_6
    generalize Q6.setRow Q5.heap.size (arr X).toArray = Q7 at *
    refine hK.out _ _ hS_7 (fun hHeld => ?_)
    clear hK K
    try simp only [Act.put, List.setIfInBounds_toArray, List.set_cons_zero, List.set_cons_succ]
    refine rd24 (by kernel_rfl) (fun K hK => ?_)
    go_simp
    have hba : w.heap.size ≤ Q5.heap.size := bel_5.size
    have hbt : w.heap.size ≤ Q0.heap.size := bel_0.size
    generalize hWX : (Q7.setCell ⟨Q0.heap.size, 0, none⟩ (.slice xa0 T.1.length xk0)).setCell ⟨Q0.heap.size, 1, none⟩ (.slice xa1 T.2.length xk1) = Q8
    obtain ⟨r0, r1, qz, qb, qa⟩ := putTwo hWX t0_7 t1_7
    clear hWX
    have bel_8 := qb _ _ bel_7 hbt
    have hS_8 := sev_keep hS7 (Carries.of 0 bel_8)
    have arr_8 := qa _ _ arr_7 hne_7
    refine hK.out _ _ hS_8 (fun hHeld => ?_)
    clear hK K
    try simp only [Act.put, List.setIfInBounds_toArray, List.set_cons_zero, List.set_cons_succ]
    refine wpAnyH_done (by kernel_rfl) ?_ _
    go_wp2_with fail
    go_meet
    case rel => exact ⟨_, _, rfl, rfl, arr_8, r0, r1, bel_8, hba, hbt⟩
  case rest =>
  obtain ⟨ga, gb, rfl, rfl, hA1, f0, f1, hb1, hga, hgb⟩ := hcut
  obtain ⟨w1, hw1e⟩ : ∃ x, x = wc := ⟨_, rfl⟩
  subst hw1e
  have HH1 := Lib.hid (HH.out.after hb1)
  have HY1 := Lib.hid (HY.out.keep (Carries.of lo hb1))
  have HB1 := Lib.hid (HB.out.trans (hb1.mono HB.out.size))
  have HA1 := Lib.hid hA1
  have zE : E < w.heap.size := HH.out.ty.lt
  clear hA1 e1 e3 e5 e6 d0 d1 hrng hga hgb
  have hkN : k < s.ms.length := by rw [← HN.out]; exact hk
  have htn : t < n.ts.length := by rw [← HTS.out]; exact ht
  have hrd : (putAll 49 X T.1 == X) = RN := by rw [HX.out, HTT.out, ← hRN]; exact ready_pad HG.out (HMK.out k hkN) htn
  have HRN := Lib.hid hRN; have HRD := Lib.hid hrd
  have HKN := Lib.hid hkN; have HTN := Lib.hid htn
  clear hRN hrd hkN htn
  go_wp2_with (refine wpList_load_row rfl 111 _ rfl ga rfl _ _ _ _ HA1.out.1 g1 rfl (infoArr HXL.out) ?_)
  refine (isEnabled_any X HXL.out _ _ T w1 lo HY1.out s1 HIX.out.1).mono ?_
  rintro e w2 ⟨rfl, hb2⟩
  rw [HRD.out]
  have HH2 := Lib.hid (HH1.out.after hb2)
  have HY2 := Lib.hid (HY1.out.keep (Carries.of lo hb2))
  have HB2 := Lib.hid (HB1.out.trans (hb2.mono HB1.out.size))
  have HA2 := Lib.hid (HA1.out.after hb2)
  have f0 := cell_carry f0 (Carries.of 0 hb2)
  have f1 := cell_carry f1 (Carries.of 0 hb2)
  have HBW := Lib.hid (hb1.trans (hb2.mono hb1.size))
  clear hb1 hb2 HH1 HY1 HB1 HA1
  have HBB : Hid (w0.heap.size ≤ w.heap.size) := HB.out.size
  cases RN with
  | false =>
    go_wp2_with fail
    go_ret
    exact ⟨HBW.out.mono HBB.out, Or.inl ⟨HRN.out, rfl, _, _, HH2.out⟩⟩
  | true =>
  obtain ⟨hok, hfa⟩ := ex_parts HG.out (HMK.out k HKN.out) HTN.out HRN.out
  rw [← HX.out, ← HTT.out] at hok hfa
  obtain ⟨FO, hFO⟩ : ∃ q, q = exOk n (stN s.ms k) t := ⟨_, rfl⟩
  rw [← hFO] at hok hfa
  have HFO := Lib.hid hFO
  obtain ⟨FA, hFA⟩ : ∃ q, q = ftA X T := ⟨_, rfl⟩
  have lFA : FA.length = 30 := by rw [hFA]; exact ftA_length HXL.out
  have HFA := Lib.hid hFA; have HLF := Lib.hid lFA
  rw [← hFA] at hfa
  have HFE := Lib.hid hfa; have HOK := Lib.hid hok
  have g3 : (Try.prog.info? 111).map (·.size) = some (arr FA).length := by rw [arr_length, lFA]; exact Try.infoArr
  clear hFO hFA lFA hok hfa
  go_wp2_with (refine wpList_load_row rfl 111 _ rfl ga rfl _ _ _ _ HA2.out.1 g1 rfl (infoArr HXL.out) ?_)
  refine (fireTransition_any X HXL.out _ _ T w2 lo HY2.out s1 s2 HIX.out.1 HIX.out.2).mono ?_
  rintro e w3 ⟨rfl, hb3⟩
  rw [HOK.out, ← HFA.out]
  have HH3 := Lib.hid (HH2.out.after hb3)
  have HBW3 := Lib.hid (HBW.out.trans (hb3.mono HBW.out.size))
  have hz3 := ArrAt.new w3 zeros_length
  have HZ3 := Lib.hid hz3
  clear hb3 hz3 HA2 HY2 HB2 HH2 f0 f1
  have hal : Below w3.heap.size w3 (w3.alloc (.cells (arr zeros).toArray 111)) := (Below.refl _ _).alloc (Nat.le_refl _) _
  have HAL := Lib.hid hal; clear hal
  have hb4 : Below w3.heap.size w3 ((w3.alloc (.cells (arr zeros).toArray 111)).setRow w3.heap.size (arr FA).toArray) := below_setRow HAL.out (Nat.le_refl _) _
  have hA4 : ArrAt ((w3.alloc (.cells (arr zeros).toArray 111)).setRow w3.heap.size (arr FA).toArray) w3.heap.size FA := ⟨setRow_heap _ _ _ _ _ _ HZ3.out.1, HLF.out⟩
  obtain ⟨w4, hw4⟩ : ∃ q, q = (w3.alloc (.cells (arr zeros).toArray 111)).setRow w3.heap.size (arr FA).toArray := ⟨_, rfl⟩
  rw [← hw4] at hb4 hA4
  have HW4 := Lib.hid hw4
  clear hw4
  go_upto_region 5 with (refine wpList_store_row rfl 111 _ _ rfl w3.heap.size _ rfl rfl _ _ HZ3.out.1 (infoArr HLF.out) (by simp [arr_length, HLF.out, zeros_length]) (arr_all _) ?_)
  change Code.wp _ _ _ _ ((w3.alloc (.cells (arr zeros).toArray 111)).setRow w3.heap.size (arr FA).toArray)
  rw [← HW4.out]
  clear HW4
  have HH4 := Lib.hid (HH3.out.after hb4)
  have HBW4 := Lib.hid (HBW3.out.trans (hb4.mono HBW3.out.size))
  have HA4 := Lib.hid hA4
  clear hb4 hA4 HZ3 HAL HH3 HBW3
  cases FO with
  | false =>
    have c7 := HH4.out.c7
    have f7 := HH4.out.fr 7
    go_wp2_with fail
    go_ret
    exact ⟨(HBW4.out.mono HBB.out).setCell (p := ⟨E, 7, none⟩) HH4.out.bE _, Or.inr (Or.inl ⟨HRN.out, HFO.out.symm, rfl, _, _, HH4.out.setR true⟩)⟩
  | true =>
  obtain ⟨gz, hgz⟩ : ∃ q, q = w3.heap.size := ⟨_, rfl⟩
  rw [← hgz] at HA4 ⊢
  obtain ⟨MM, hMM⟩ : ∃ q, q = exNext n (stN s.ms k) t := ⟨_, rfl⟩
  have hFM : FA = pad (bytes MM) := by rw [hMM]; exact HFE.out rfl
  have hmM : markB n MM = true := by rw [hMM]; exact exNext_mark HG.out (HMK.out k HKN.out) HTN.out
  have HMM := Lib.hid hMM; have HFM := Lib.hid hFM; have HKM := Lib.hid hmM
  have HM30 : Hid (MM.size ≤ 30) := by
    have := mark_size HKM.out
    have := (goodN_parts HG.out).2.1
    unfold Hid; omega
  have HZS : Hid (∀ j, j < s.ms.length → (stN s.ms j).size = MM.size) := fun j hj => by
    have h1 := mark_size HKM.out
    have h2 := mark_size (HMK.out j hj)
    omega
  obtain ⟨av, cv, hvv⟩ : ∃ a c, vv = .slice a s.mv.length c := HH4.out.rv.form
  subst hvv
  obtain ⟨nV, hnV⟩ : ∃ q, q = s.mv.length := ⟨_, rfl⟩
  rw [← hnV] at HH4
  have HNV := Lib.hid hnV
  clear hMM hFM hmM hgz HH hnV
  obtain ⟨j0, hj0, hyy⟩ := Option.map_eq_some_iff.1 Try.infoMv
  simp only [Prod.mk.injEq] at hyy
  obtain ⟨hy0, hy1, hy2⟩ := hyy
  have HJ0 := Lib.hid hj0; have HY0 := Lib.hid hy0; have HY1 := Lib.hid hy1; have HY2 := Lib.hid hy2
  clear hj0 hy0 hy1 hy2
  have c4 := HH4.out.c4; have c5 := HH4.out.c5; have c6 := HH4.out.c6
  go_wp2_with fail
  refine wp_region_held_drew (S := fun w' => w'.cell? ⟨E, 5, none⟩ = some (.int .i64 (k : Int)) ∧ w'.cell? ⟨E, 6, none⟩ = some (.int .i64 (t : Int))) (by kernel_rfl) ⟨c5, c6⟩ (fun hHeld => ?_)
  have hdr : Below w4.heap.size w4 w4.drew := (Below.refl _ _).drew
  have HH5 := Lib.hid (HH4.out.after hdr)
  have HA5 := Lib.hid (HA4.out.after hdr)
  have HBW5 := Lib.hid (HBW4.out.trans (hdr.mono HBW4.out.size))
  have c4 := cell_carry c4 (Carries.of 0 hdr)
  have c5 := cell_carry c5 (Carries.of 0 hdr)
  have c6 := cell_carry c6 (Carries.of 0 hdr)
  clear HH4 HA4 HBW4 hdr
  generalize w4.drew = w5 at HH5 HA5 HBW5 c4 c5 c6 hHeld ⊢
  refine tk0 (v := ?_) (by kernel_rfl) (by kernel_rfl) (by kernel_rfl) (by first | exact fun _ _ _ h => h | exact fun _ _ _ h => absurd h.1 (by simp)) (Or.inl ⟨by rfl, ?_⟩) (by assumption) ?_
  rotate_left 1
  focus (intro wx hSw; (try dsimp only at hSw); go_simp; try (with_reducible rfl))
  try simp only [Act.put, List.setIfInBounds_toArray, List.set_cons_zero, List.set_cons_succ]
  refine tk1 (v := ?_) (by kernel_rfl) (by kernel_rfl) (by kernel_rfl) (by first | exact fun _ _ _ h => h | exact fun _ _ _ h => absurd h.1 (by simp)) (Or.inl ⟨by rfl, ?_⟩) (by assumption) ?_
  rotate_left 1
  focus (intro wx hSw; (try dsimp only at hSw); go_simp; try (with_reducible rfl))
  try simp only [Act.put, List.setIfInBounds_toArray, List.set_cons_zero, List.set_cons_succ]
  refine tk2 (v := ?_) (by kernel_rfl) (by kernel_rfl) (by kernel_rfl) (by first | exact fun _ _ _ h => h | exact fun _ _ _ h => absurd h.1 (by simp)) (Or.inl ⟨by rfl, ?_⟩) (by assumption) ?_
  rotate_left 1
  focus (intro wx hSw; (try dsimp only at hSw); go_simp; try (with_reducible rfl))
  try simp only [Act.put, List.setIfInBounds_toArray, List.set_cons_zero, List.set_cons_succ]
  refine tk3 (v := ?_) (by kernel_rfl) (by kernel_rfl) (by kernel_rfl) (by first | exact fun _ _ _ h => h | exact fun _ _ _ h => absurd h.1 (by simp)) (Or.inl ⟨by rfl, ?_⟩) (by assumption) ?_
  rotate_left 1
  focus (intro wx hSw; (try dsimp only at hSw); go_simp; try (with_reducible rfl))
  try simp only [Act.put, List.setIfInBounds_toArray, List.set_cons_zero, List.set_cons_succ]
  refine tk5 (v := ?_) (by kernel_rfl) (by kernel_rfl) (by kernel_rfl) (by first | exact fun _ _ _ h => h | exact fun _ _ _ h => absurd h.1 (by simp)) (Or.inl ⟨by rfl, ?_⟩) (by assumption) ?_
  rotate_left 1
  focus (intro wx hSw; (try dsimp only at hSw); go_simp; try (with_reducible rfl))
  try simp only [Act.put, List.setIfInBounds_toArray, List.set_cons_zero, List.set_cons_succ]
  refine tk6 (v := ?_) (by kernel_rfl) (by kernel_rfl) (by kernel_rfl) (by first | exact fun _ _ _ h => h | exact fun _ _ _ h => absurd h.1 (by simp)) (Or.inl ⟨by rfl, ?_⟩) (by assumption) ?_
  rotate_left 1
  focus (intro wx hSw; (try dsimp only at hSw); go_simp; try (with_reducible rfl))
  try simp only [Act.put, List.setIfInBounds_toArray, List.set_cons_zero, List.set_cons_succ]
  refine tk7 (v := ?_) (by kernel_rfl) (by kernel_rfl) (by kernel_rfl) (by first | exact fun _ _ _ h => h | exact fun _ _ _ h => absurd h.1 (by simp)) (Or.inl ⟨by rfl, ?_⟩) (by assumption) ?_
  rotate_left 1
  focus (intro wx hSw; (try dsimp only at hSw); go_simp; try (with_reducible rfl))
  try simp only [Act.put, List.setIfInBounds_toArray, List.set_cons_zero, List.set_cons_succ]
  refine tk8 (v := ?_) (by kernel_rfl) (by kernel_rfl) (by kernel_rfl) (by first | exact fun _ _ _ h => h | exact fun _ _ _ h => absurd h.1 (by simp)) (Or.inl ⟨by rfl, ?_⟩) (by assumption) ?_
  rotate_left 1
  focus (intro wx hSw; (try dsimp only at hSw); go_simp; try (with_reducible rfl))
  try simp only [Act.put, List.setIfInBounds_toArray, List.set_cons_zero, List.set_cons_succ]
  refine tk9 (v := ?_) (by kernel_rfl) (by kernel_rfl) (by kernel_rfl) (by first | exact fun _ _ _ h => h | exact fun _ _ _ h => absurd h.1 (by simp)) (Or.inl ⟨by rfl, ?_⟩) (by assumption) ?_
  rotate_left 1
  focus (intro wx hSw; (try dsimp only at hSw); go_simp; try (with_reducible rfl))
  try simp only [Act.put, List.setIfInBounds_toArray, List.set_cons_zero, List.set_cons_succ]
  refine tk10 (v := ?_) (by kernel_rfl) (by kernel_rfl) (by kernel_rfl) (by first | exact fun _ _ _ h => h | exact fun _ _ _ h => absurd h.1 (by simp)) (Or.inl ⟨by rfl, ?_⟩) (by assumption) ?_
  rotate_left 1
  focus (intro wx hSw; (try dsimp only at hSw); go_simp; try (with_reducible rfl))
  try simp only [Act.put, List.setIfInBounds_toArray, List.set_cons_zero, List.set_cons_succ]
  refine tk11 (v := ?_) (by kernel_rfl) (by kernel_rfl) (by kernel_rfl) (by first | exact fun _ _ _ h => h | exact fun _ _ _ h => absurd h.1 (by simp)) (Or.inl ⟨by rfl, ?_⟩) (by assumption) ?_
  rotate_left 1
  focus (intro wx hSw; (try dsimp only at hSw); go_simp; try (with_reducible rfl))
  try simp only [Act.put, List.setIfInBounds_toArray, List.set_cons_zero, List.set_cons_succ]
  refine tk12 (v := ?_) (by kernel_rfl) (by kernel_rfl) (by kernel_rfl) (by first | exact fun _ _ _ h => h | exact fun _ _ _ h => absurd h.1 (by simp)) (Or.inl ⟨by rfl, ?_⟩) (by assumption) ?_
  rotate_left 1
  focus (intro wx hSw; (try dsimp only at hSw); go_simp; try (with_reducible rfl))
  try simp only [Act.put, List.setIfInBounds_toArray, List.set_cons_zero, List.set_cons_succ]
  refine tk13 (v := ?_) (by kernel_rfl) (by kernel_rfl) (by kernel_rfl) (by first | exact fun _ _ _ h => h | exact fun _ _ _ h => absurd h.1 (by simp)) (Or.inl ⟨by rfl, ?_⟩) (by assumption) ?_
  rotate_left 1
  focus (intro wx hSw; (try dsimp only at hSw); go_simp; try (with_reducible rfl))
  try simp only [Act.put, List.setIfInBounds_toArray, List.set_cons_zero, List.set_cons_succ]
  refine wpAnyH_ready (rs := [4, 14]) (by kernel_rfl) (by simp) ?_
  refine ar4 (fun K hK => ?_) ?_
  · skip
    go_simp
    refine hK.out _ _ ⟨c5, c6⟩ (fun hHeld => ?_)
    clear hK K
    try simp only [Act.put, List.setIfInBounds_toArray, List.set_cons_zero, List.set_cons_succ]
    refine rd14 (by kernel_rfl) (fun K hK => ?_)
    rw [if_pos (by rfl)]
    refine wp_load_row 111 _ rfl gz rfl _ _ _ _ HA5.out.1 g1 rfl (infoArr HLF.out) ?_
    refine hK.out _ _ ⟨c5, c6⟩ (fun hHeld => ?_)
    clear hK K
    try simp only [Act.put, List.setIfInBounds_toArray, List.set_cons_zero, List.set_cons_succ]
    refine rd15 (by kernel_rfl) (fun K hK => ?_)
    go_simp
    rw [HFM.out]
    refine (number_any w0.heap.size E M w5 P _ _ _ (k : Int) (t : Int) false s MM HH5.out HM30.out HZS.out HD.out (by omega) (by have := HBW5.out.size; have := HBB.out; omega)).mono ?_
    rintro e w6 ⟨rfl, ⟨vm6, hx6⟩, hb6⟩
    have HH6 := Lib.hid hx6
    have HB6 := Lib.hid ((HBW5.out.mono HBB.out).trans hb6)
    have k4 := hx6.c4
    have k5 := hx6.c5
    have k6 := hx6.c6
    obtain ⟨FN, hFN⟩ : ∃ q, q = findN s.ms MM := ⟨_, rfl⟩
    rw [← hFN]
    have HFN := Lib.hid hFN
    clear hx6 hb6 hFN
    refine hK.out _ _ ⟨k5, k6⟩ (fun hHeld => ?_)
    clear hK K
    try simp only [Act.put, List.setIfInBounds_toArray, List.set_cons_zero, List.set_cons_succ]
    refine tk16 (v := ?_) (by kernel_rfl) (by kernel_rfl) (by kernel_rfl) (by first | exact fun _ _ _ h => h | exact fun _ _ _ h => absurd h.1 (by simp)) (Or.inl ⟨by rfl, ?_⟩) (by assumption) ?_
    rotate_left 1
    focus (intro wx hSw; (try dsimp only at hSw); go_simp; try (with_reducible rfl))
    try simp only [Act.put, List.setIfInBounds_toArray, List.set_cons_zero, List.set_cons_succ]
    refine rd17 (by kernel_rfl) (fun K hK => ?_)
    go_simp
    have hb7 : Below w6.heap.size w6 (w6.alloc (.cells #[.int .i64 (k : Int), .int .i64 (t : Int), .int .i64 (FN : Int)] 93)) := (Below.refl _ _).alloc (Nat.le_refl _) _
    have HN7 := Lib.hid (World.news_of_block (cs := #[.int .i64 (k : Int), .int .i64 (t : Int), .int .i64 (FN : Int)]) (t := 93) (fr := (0, 0)) (heap_alloc_new w6 _))
    generalize w6.alloc (.cells #[.int .i64 (k : Int), .int .i64 (t : Int), .int .i64 (FN : Int)] 93) = w7 at hb7 HN7 ⊢
    have HH7 := Lib.hid (HH6.out.after hb7)
    have HB7 := Lib.hid (HB6.out.trans (hb7.mono (by have h1 := HB6.out.size; have h2 := HBB.out; exact Nat.le_trans h2 h1)))
    have k4 := cell_carry k4 (Carries.of 0 hb7)
    have k5 := cell_carry k5 (Carries.of 0 hb7)
    have k6 := cell_carry k6 (Carries.of 0 hb7)
    have z7 : w0.heap.size ≤ w7.heap.size := Nat.le_trans HBB.out HB7.out.size
    clear hb7
    refine hK.out _ _ ⟨k5, k6⟩ (fun hHeld => ?_)
    clear hK K
    try simp only [Act.put, List.setIfInBounds_toArray, List.set_cons_zero, List.set_cons_succ]
    have hrow : w7.ownsRow w0.heap.size 93 3 (.slice av nV cv) nV (mvCells s.mv) := by
      have h := HH7.out.rv
      unfold MRow at h
      simp only at h
      rw [← HNV.out] at h
      exact h
    refine rd18 (by kernel_rfl) (fun K hK => ?_)
    refine step_append_lies _ (by rfl) _ _ _ (by rfl) w0.heap.size 93 j0 _ 3 24 Try.underlying31 HJ0.out HY0.out HY1.out HY2.out rfl (by omega) (.slice av nV cv) nV (mvCells s.mv) (by rfl) hrow ⟨w6.heap.size, 0, none⟩ 1 1 [.int .i64 (k : Int), .int .i64 (t : Int), .int .i64 (FN : Int)] (by rfl) (by rfl) HN7.out (by simp [Value.oneCell']) (by omega) (by rw [HNV.out]; unfold maxLen; omega) (by rw [HNV.out]; omega) z7 w7.heap.size rfl ?_
    intro g8 c8 w8 hown hgrow hat hlt8
    have hr8 : MRow w0.heap.size w8 (.slice (some ⟨g8, 0, none⟩) (nV + 1) c8) (s.mv ++ [((k : Int), (t : Int), (FN : Int))]) := by
      unfold MRow
      rw [mvCells_append, List.length_append, ← HNV.out]
      exact hown
    have hE8 := owns_ne hrow HH7.out.ty (by decide)
    have kf8 : w8.frozen? ⟨E, 4, none⟩ = false := (World.frozen?_of_block (a := ⟨E, 4, none⟩) (hgrow.block E HH7.out.ty.lt hE8)).trans (HH7.out.fr 4)
    have k4 := hgrow.cell k4 hE8
    have k5 := hgrow.cell k5 hE8
    have k6 := hgrow.cell k6 hE8
    have HXP := Lib.hid (HH7.out.pushV hgrow hr8)
    have HB8 := Lib.hid (HB7.out.grown hgrow z7 (fun j hj => own_base hrow j hj))
    clear hown hgrow hat hr8 hrow
    refine hK.out _ _ ⟨k5, k6⟩ (fun hHeld => ?_)
    clear hK K
    try simp only [Act.put, List.setIfInBounds_toArray, List.set_cons_zero, List.set_cons_succ]
    refine tk19 (v := ?_) (by kernel_rfl) (by kernel_rfl) (by kernel_rfl) (by first | exact fun _ _ _ h => h | exact fun _ _ _ h => absurd h.1 (by simp)) (Or.inl ⟨by rfl, ?_⟩) (by assumption) ?_
    rotate_left 1
    focus (intro wx hSw; (try dsimp only at hSw); go_simp; try (with_reducible rfl))
    try simp only [Act.put, List.setIfInBounds_toArray, List.set_cons_zero, List.set_cons_succ]
    refine tk20 (v := ?_) (by kernel_rfl) (by kernel_rfl) (by kernel_rfl) (by first | exact fun _ _ _ h => h | exact fun _ _ _ h => absurd h.1 (by simp)) (Or.inl ⟨by rfl, ?_⟩) (by assumption) ?_
    rotate_left 1
    focus (intro wx hSw; (try dsimp only at hSw); go_simp; try (with_reducible rfl))
    try simp only [Act.put, List.setIfInBounds_toArray, List.set_cons_zero, List.set_cons_succ]
    refine rd21 (by kernel_rfl) (fun K hK => ?_)
    go_simp
    have k5 := cell_far (j := 4) (u := .slice (some ⟨g8, 0, none⟩) (nV + 1) c8) k5 (by decide)
    have k6 := cell_far (j := 4) (u := .slice (some ⟨g8, 0, none⟩) (nV + 1) c8) k6 (by decide)
    refine hK.out _ _ ⟨k5, k6⟩ (fun hHeld => ?_)
    clear hK K
    try simp only [Act.put, List.setIfInBounds_toArray, List.set_cons_zero, List.set_cons_succ]
    refine wpAnyH_done (by kernel_rfl) ?_ _
    go_wp2_with fail
    go_ret
    have hE : exAdd s k t (exNext n (stN s.ms k) t) = ⟨exMs s.ms MM, s.mv ++ [((k : Int), (t : Int), (FN : Int))]⟩ := by unfold exAdd; rw [← HMM.out, ← HFN.out]
    exact ⟨HB8.out.setCell (p := ⟨E, 4, none⟩) HH7.out.bE _, Or.inr (Or.inr ⟨HRN.out, HFO.out.symm, rfl, _, _, by rw [hE]; exact HXP.out⟩)⟩
  refine ar14 (fun K hK => ?_) AllReadyH.nil
  rw [if_pos (by rfl)]
  refine wp_load_row 111 _ rfl gz rfl _ _ _ _ HA5.out.1 g1 rfl (infoArr HLF.out) ?_
  refine hK.out _ _ ⟨c5, c6⟩ (fun hHeld => ?_)
  clear hK K
  try simp only [Act.put, List.setIfInBounds_toArray, List.set_cons_zero, List.set_cons_succ]
  refine wpAnyH_ready (rs := [4, 15]) (by kernel_rfl) (by simp) ?_
  refine ar4 (fun K hK => ?_) ?_
  · skip
    go_simp
    refine hK.out _ _ ⟨c5, c6⟩ (fun hHeld => ?_)
    clear hK K
    try simp only [Act.put, List.setIfInBounds_toArray, List.set_cons_zero, List.set_cons_succ]
    refine rd15 (by kernel_rfl) (fun K hK => ?_)
    go_simp
    rw [HFM.out]
    refine (number_any w0.heap.size E M w5 P _ _ _ (k : Int) (t : Int) false s MM HH5.out HM30.out HZS.out HD.out (by omega) (by have := HBW5.out.size; have := HBB.out; omega)).mono ?_
    rintro e w6 ⟨rfl, ⟨vm6, hx6⟩, hb6⟩
    have HH6 := Lib.hid hx6
    have HB6 := Lib.hid ((HBW5.out.mono HBB.out).trans hb6)
    have k4 := hx6.c4
    have k5 := hx6.c5
    have k6 := hx6.c6
    obtain ⟨FN, hFN⟩ : ∃ q, q = findN s.ms MM := ⟨_, rfl⟩
    rw [← hFN]
    have HFN := Lib.hid hFN
    clear hx6 hb6 hFN
    refine hK.out _ _ ⟨k5, k6⟩ (fun hHeld => ?_)
    clear hK K
    try simp only [Act.put, List.setIfInBounds_toArray, List.set_cons_zero, List.set_cons_succ]
    refine tk16 (v := ?_) (by kernel_rfl) (by kernel_rfl) (by kernel_rfl) (by first | exact fun _ _ _ h => h | exact fun _ _ _ h => absurd h.1 (by simp)) (Or.inl ⟨by rfl, ?_⟩) (by assumption) ?_
    rotate_left 1
    focus (intro wx hSw; (try dsimp only at hSw); go_simp; try (with_reducible rfl))
    try simp only [Act.put, List.setIfInBounds_toArray, List.set_cons_zero, List.set_cons_succ]
    refine rd17 (by kernel_rfl) (fun K hK => ?_)
    go_simp
    have hb7 : Below w6.heap.size w6 (w6.alloc (.cells #[.int .i64 (k : Int), .int .i64 (t : Int), .int .i64 (FN : Int)] 93)) := (Below.refl _ _).alloc (Nat.le_refl _) _
    have HN7 := Lib.hid (World.news_of_block (cs := #[.int .i64 (k : Int), .int .i64 (t : Int), .int .i64 (FN : Int)]) (t := 93) (fr := (0, 0)) (heap_alloc_new w6 _))
    generalize w6.alloc (.cells #[.int .i64 (k : Int), .int .i64 (t : Int), .int .i64 (FN : Int)] 93) = w7 at hb7 HN7 ⊢
    have HH7 := Lib.hid (HH6.out.after hb7)
    have HB7 := Lib.hid (HB6.out.trans (hb7.mono (by have h1 := HB6.out.size; have h2 := HBB.out; exact Nat.le_trans h2 h1)))
    have k4 := cell_carry k4 (Carries.of 0 hb7)
    have k5 := cell_carry k5 (Carries.of 0 hb7)
    have k6 := cell_carry k6 (Carries.of 0 hb7)
    have z7 : w0.heap.size ≤ w7.heap.size := Nat.le_trans HBB.out HB7.out.size
    clear hb7
    refine hK.out _ _ ⟨k5, k6⟩ (fun hHeld => ?_)
    clear hK K
    try simp only [Act.put, List.setIfInBounds_toArray, List.set_cons_zero, List.set_cons_succ]
    have hrow : w7.ownsRow w0.heap.size 93 3 (.slice av nV cv) nV (mvCells s.mv) := by
      have h := HH7.out.rv
      unfold MRow at h
      simp only at h
      rw [← HNV.out] at h
      exact h
    refine rd18 (by kernel_rfl) (fun K hK => ?_)
    refine step_append_lies _ (by rfl) _ _ _ (by rfl) w0.heap.size 93 j0 _ 3 24 Try.underlying31 HJ0.out HY0.out HY1.out HY2.out rfl (by omega) (.slice av nV cv) nV (mvCells s.mv) (by rfl) hrow ⟨w6.heap.size, 0, none⟩ 1 1 [.int .i64 (k : Int), .int .i64 (t : Int), .int .i64 (FN : Int)] (by rfl) (by rfl) HN7.out (by simp [Value.oneCell']) (by omega) (by rw [HNV.out]; unfold maxLen; omega) (by rw [HNV.out]; omega) z7 w7.heap.size rfl ?_
    intro g8 c8 w8 hown hgrow hat hlt8
    have hr8 : MRow w0.heap.size w8 (.slice (some ⟨g8, 0, none⟩) (nV + 1) c8) (s.mv ++ [((k : Int), (t : Int), (FN : Int))]) := by
      unfold MRow
      rw [mvCells_append, List.length_append, ← HNV.out]
      exact hown
    have hE8 := owns_ne hrow HH7.out.ty (by decide)
    have kf8 : w8.frozen? ⟨E, 4, none⟩ = false := (World.frozen?_of_block (a := ⟨E, 4, none⟩) (hgrow.block E HH7.out.ty.lt hE8)).trans (HH7.out.fr 4)
    have k4 := hgrow.cell k4 hE8
    have k5 := hgrow.cell k5 hE8
    have k6 := hgrow.cell k6 hE8
    have HXP := Lib.hid (HH7.out.pushV hgrow hr8)
    have HB8 := Lib.hid (HB7.out.grown hgrow z7 (fun j hj => own_base hrow j hj))
    clear hown hgrow hat hr8 hrow
    refine hK.out _ _ ⟨k5, k6⟩ (fun hHeld => ?_)
    clear hK K
    try simp only [Act.put, List.setIfInBounds_toArray, List.set_cons_zero, List.set_cons_succ]
    refine tk19 (v := ?_) (by kernel_rfl) (by kernel_rfl) (by kernel_rfl) (by first | exact fun _ _ _ h => h | exact fun _ _ _ h => absurd h.1 (by simp)) (Or.inl ⟨by rfl, ?_⟩) (by assumption) ?_
    rotate_left 1
    focus (intro wx hSw; (try dsimp only at hSw); go_simp; try (with_reducible rfl))
    try simp only [Act.put, List.setIfInBounds_toArray, List.set_cons_zero, List.set_cons_succ]
    refine tk20 (v := ?_) (by kernel_rfl) (by kernel_rfl) (by kernel_rfl) (by first | exact fun _ _ _ h => h | exact fun _ _ _ h => absurd h.1 (by simp)) (Or.inl ⟨by rfl, ?_⟩) (by assumption) ?_
    rotate_left 1
    focus (intro wx hSw; (try dsimp only at hSw); go_simp; try (with_reducible rfl))
    try simp only [Act.put, List.setIfInBounds_toArray, List.set_cons_zero, List.set_cons_succ]
    refine rd21 (by kernel_rfl) (fun K hK => ?_)
    go_simp
    have k5 := cell_far (j := 4) (u := .slice (some ⟨g8, 0, none⟩) (nV + 1) c8) k5 (by decide)
    have k6 := cell_far (j := 4) (u := .slice (some ⟨g8, 0, none⟩) (nV + 1) c8) k6 (by decide)
    refine hK.out _ _ ⟨k5, k6⟩ (fun hHeld => ?_)
    clear hK K
    try simp only [Act.put, List.setIfInBounds_toArray, List.set_cons_zero, List.set_cons_succ]
    refine wpAnyH_done (by kernel_rfl) ?_ _
    go_wp2_with fail
    go_ret
    have hE : exAdd s k t (exNext n (stN s.ms k) t) = ⟨exMs s.ms MM, s.mv ++ [((k : Int), (t : Int), (FN : Int))]⟩ := by unfold exAdd; rw [← HMM.out, ← HFN.out]
    exact ⟨HB8.out.setCell (p := ⟨E, 4, none⟩) HH7.out.bE _, Or.inr (Or.inr ⟨HRN.out, HFO.out.symm, rfl, _, _, by rw [hE]; exact HXP.out⟩)⟩
  refine ar15 (fun K hK => ?_) AllReadyH.nil
  go_simp
  rw [HFM.out]
  refine (number_any w0.heap.size E M w5 P _ _ _ (k : Int) (t : Int) false s MM HH5.out HM30.out HZS.out HD.out (by omega) (by have := HBW5.out.size; have := HBB.out; omega)).mono ?_
  rintro e w6 ⟨rfl, ⟨vm6, hx6⟩, hb6⟩
  have HH6 := Lib.hid hx6
  have HB6 := Lib.hid ((HBW5.out.mono HBB.out).trans hb6)
  have k4 := hx6.c4
  have k5 := hx6.c5
  have k6 := hx6.c6
  obtain ⟨FN, hFN⟩ : ∃ q, q = findN s.ms MM := ⟨_, rfl⟩
  rw [← hFN]
  have HFN := Lib.hid hFN
  clear hx6 hb6 hFN
  refine hK.out _ _ ⟨k5, k6⟩ (fun hHeld => ?_)
  clear hK K
  try simp only [Act.put, List.setIfInBounds_toArray, List.set_cons_zero, List.set_cons_succ]
  refine tk16 (v := ?_) (by kernel_rfl) (by kernel_rfl) (by kernel_rfl) (by first | exact fun _ _ _ h => h | exact fun _ _ _ h => absurd h.1 (by simp)) (Or.inl ⟨by rfl, ?_⟩) (by assumption) ?_
  rotate_left 1
  focus (intro wx hSw; (try dsimp only at hSw); go_simp; try (with_reducible rfl))
  try simp only [Act.put, List.setIfInBounds_toArray, List.set_cons_zero, List.set_cons_succ]
  refine wpAnyH_ready (rs := [4, 17]) (by kernel_rfl) (by simp) ?_
  refine ar4 (fun K hK => ?_) ?_
  · skip
    go_simp
    refine hK.out _ _ ⟨k5, k6⟩ (fun hHeld => ?_)
    clear hK K
    try simp only [Act.put, List.setIfInBounds_toArray, List.set_cons_zero, List.set_cons_succ]
    refine rd17 (by kernel_rfl) (fun K hK => ?_)
    go_simp
    have hb7 : Below w6.heap.size w6 (w6.alloc (.cells #[.int .i64 (k : Int), .int .i64 (t : Int), .int .i64 (FN : Int)] 93)) := (Below.refl _ _).alloc (Nat.le_refl _) _
    have HN7 := Lib.hid (World.news_of_block (cs := #[.int .i64 (k : Int), .int .i64 (t : Int), .int .i64 (FN : Int)]) (t := 93) (fr := (0, 0)) (heap_alloc_new w6 _))
    generalize w6.alloc (.cells #[.int .i64 (k : Int), .int .i64 (t : Int), .int .i64 (FN : Int)] 93) = w7 at hb7 HN7 ⊢
    have HH7 := Lib.hid (HH6.out.after hb7)
    have HB7 := Lib.hid (HB6.out.trans (hb7.mono (by have h1 := HB6.out.size; have h2 := HBB.out; exact Nat.le_trans h2 h1)))
    have k4 := cell_carry k4 (Carries.of 0 hb7)
    have k5 := cell_carry k5 (Carries.of 0 hb7)
    have k6 := cell_carry k6 (Carries.of 0 hb7)
    have z7 : w0.heap.size ≤ w7.heap.size := Nat.le_trans HBB.out HB7.out.size
    clear hb7
    refine hK.out _ _ ⟨k5, k6⟩ (fun hHeld => ?_)
    clear hK K
    try simp only [Act.put, List.setIfInBounds_toArray, List.set_cons_zero, List.set_cons_succ]
    have hrow : w7.ownsRow w0.heap.size 93 3 (.slice av nV cv) nV (mvCells s.mv) := by
      have h := HH7.out.rv
      unfold MRow at h
      simp only at h
      rw [← HNV.out] at h
      exact h
    refine rd18 (by kernel_rfl) (fun K hK => ?_)
    refine step_append_lies _ (by rfl) _ _ _ (by rfl) w0.heap.size 93 j0 _ 3 24 Try.underlying31 HJ0.out HY0.out HY1.out HY2.out rfl (by omega) (.slice av nV cv) nV (mvCells s.mv) (by rfl) hrow ⟨w6.heap.size, 0, none⟩ 1 1 [.int .i64 (k : Int), .int .i64 (t : Int), .int .i64 (FN : Int)] (by rfl) (by rfl) HN7.out (by simp [Value.oneCell']) (by omega) (by rw [HNV.out]; unfold maxLen; omega) (by rw [HNV.out]; omega) z7 w7.heap.size rfl ?_
    intro g8 c8 w8 hown hgrow hat hlt8
    have hr8 : MRow w0.heap.size w8 (.slice (some ⟨g8, 0, none⟩) (nV + 1) c8) (s.mv ++ [((k : Int), (t : Int), (FN : Int))]) := by
      unfold MRow
      rw [mvCells_append, List.length_append, ← HNV.out]
      exact hown
    have hE8 := owns_ne hrow HH7.out.ty (by decide)
    have kf8 : w8.frozen? ⟨E, 4, none⟩ = false := (World.frozen?_of_block (a := ⟨E, 4, none⟩) (hgrow.block E HH7.out.ty.lt hE8)).trans (HH7.out.fr 4)
    have k4 := hgrow.cell k4 hE8
    have k5 := hgrow.cell k5 hE8
    have k6 := hgrow.cell k6 hE8
    have HXP := Lib.hid (HH7.out.pushV hgrow hr8)
    have HB8 := Lib.hid (HB7.out.grown hgrow z7 (fun j hj => own_base hrow j hj))
    clear hown hgrow hat hr8 hrow
    refine hK.out _ _ ⟨k5, k6⟩ (fun hHeld => ?_)
    clear hK K
    try simp only [Act.put, List.setIfInBounds_toArray, List.set_cons_zero, List.set_cons_succ]
    refine tk19 (v := ?_) (by kernel_rfl) (by kernel_rfl) (by kernel_rfl) (by first | exact fun _ _ _ h => h | exact fun _ _ _ h => absurd h.1 (by simp)) (Or.inl ⟨by rfl, ?_⟩) (by assumption) ?_
    rotate_left 1
    focus (intro wx hSw; (try dsimp only at hSw); go_simp; try (with_reducible rfl))
    try simp only [Act.put, List.setIfInBounds_toArray, List.set_cons_zero, List.set_cons_succ]
    refine tk20 (v := ?_) (by kernel_rfl) (by kernel_rfl) (by kernel_rfl) (by first | exact fun _ _ _ h => h | exact fun _ _ _ h => absurd h.1 (by simp)) (Or.inl ⟨by rfl, ?_⟩) (by assumption) ?_
    rotate_left 1
    focus (intro wx hSw; (try dsimp only at hSw); go_simp; try (with_reducible rfl))
    try simp only [Act.put, List.setIfInBounds_toArray, List.set_cons_zero, List.set_cons_succ]
    refine rd21 (by kernel_rfl) (fun K hK => ?_)
    go_simp
    have k5 := cell_far (j := 4) (u := .slice (some ⟨g8, 0, none⟩) (nV + 1) c8) k5 (by decide)
    have k6 := cell_far (j := 4) (u := .slice (some ⟨g8, 0, none⟩) (nV + 1) c8) k6 (by decide)
    refine hK.out _ _ ⟨k5, k6⟩ (fun hHeld => ?_)
    clear hK K
    try simp only [Act.put, List.setIfInBounds_toArray, List.set_cons_zero, List.set_cons_succ]
    refine wpAnyH_done (by kernel_rfl) ?_ _
    go_wp2_with fail
    go_ret
    have hE : exAdd s k t (exNext n (stN s.ms k) t) = ⟨exMs s.ms MM, s.mv ++ [((k : Int), (t : Int), (FN : Int))]⟩ := by unfold exAdd; rw [← HMM.out, ← HFN.out]
    exact ⟨HB8.out.setCell (p := ⟨E, 4, none⟩) HH7.out.bE _, Or.inr (Or.inr ⟨HRN.out, HFO.out.symm, rfl, _, _, by rw [hE]; exact HXP.out⟩)⟩
  refine ar17 (fun K hK => ?_) AllReadyH.nil
  go_simp
  have hb7 : Below w6.heap.size w6 (w6.alloc (.cells #[.int .i64 (k : Int), .int .i64 (t : Int), .int .i64 (FN : Int)] 93)) := (Below.refl _ _).alloc (Nat.le_refl _) _
  have HN7 := Lib.hid (World.news_of_block (cs := #[.int .i64 (k : Int), .int .i64 (t : Int), .int .i64 (FN : Int)]) (t := 93) (fr := (0, 0)) (heap_alloc_new w6 _))
  generalize w6.alloc (.cells #[.int .i64 (k : Int), .int .i64 (t : Int), .int .i64 (FN : Int)] 93) = w7 at hb7 HN7 ⊢
  have HH7 := Lib.hid (HH6.out.after hb7)
  have HB7 := Lib.hid (HB6.out.trans (hb7.mono (by have h1 := HB6.out.size; have h2 := HBB.out; exact Nat.le_trans h2 h1)))
  have k4 := cell_carry k4 (Carries.of 0 hb7)
  have k5 := cell_carry k5 (Carries.of 0 hb7)
  have k6 := cell_carry k6 (Carries.of 0 hb7)
  have z7 : w0.heap.size ≤ w7.heap.size := Nat.le_trans HBB.out HB7.out.size
  clear hb7
  refine hK.out _ _ ⟨k5, k6⟩ (fun hHeld => ?_)
  clear hK K
  try simp only [Act.put, List.setIfInBounds_toArray, List.set_cons_zero, List.set_cons_succ]
  refine rd4 (by kernel_rfl) (fun K hK => ?_)
  go_simp
  refine hK.out _ _ ⟨k5, k6⟩ (fun hHeld => ?_)
  clear hK K
  try simp only [Act.put, List.setIfInBounds_toArray, List.set_cons_zero, List.set_cons_succ]
  have hrow : w7.ownsRow w0.heap.size 93 3 (.slice av nV cv) nV (mvCells s.mv) := by
    have h := HH7.out.rv
    unfold MRow at h
    simp only at h
    rw [← HNV.out] at h
    exact h
  refine rd18 (by kernel_rfl) (fun K hK => ?_)
  refine step_append_lies _ (by rfl) _ _ _ (by rfl) w0.heap.size 93 j0 _ 3 24 Try.underlying31 HJ0.out HY0.out HY1.out HY2.out rfl (by omega) (.slice av nV cv) nV (mvCells s.mv) (by rfl) hrow ⟨w6.heap.size, 0, none⟩ 1 1 [.int .i64 (k : Int), .int .i64 (t : Int), .int .i64 (FN : Int)] (by rfl) (by rfl) HN7.out (by simp [Value.oneCell']) (by omega) (by rw [HNV.out]; unfold maxLen; omega) (by rw [HNV.out]; omega) z7 w7.heap.size rfl ?_
  intro g8 c8 w8 hown hgrow hat hlt8
  have hr8 : MRow w0.heap.size w8 (.slice (some ⟨g8, 0, none⟩) (nV + 1) c8) (s.mv ++ [((k : Int), (t : Int), (FN : Int))]) := by
    unfold MRow
    rw [mvCells_append, List.length_append, ← HNV.out]
    exact hown
  have hE8 := owns_ne hrow HH7.out.ty (by decide)
  have kf8 : w8.frozen? ⟨E, 4, none⟩ = false := (World.frozen?_of_block (a := ⟨E, 4, none⟩) (hgrow.block E HH7.out.ty.lt hE8)).trans (HH7.out.fr 4)
  have k4 := hgrow.cell k4 hE8
  have k5 := hgrow.cell k5 hE8
  have k6 := hgrow.cell k6 hE8
  have HXP := Lib.hid (HH7.out.pushV hgrow hr8)
  have HB8 := Lib.hid (HB7.out.grown hgrow z7 (fun j hj => own_base hrow j hj))
  clear hown hgrow hat hr8 hrow
  refine hK.out _ _ ⟨k5, k6⟩ (fun hHeld => ?_)
  clear hK K
  try simp only [Act.put, List.setIfInBounds_toArray, List.set_cons_zero, List.set_cons_succ]
  refine tk19 (v := ?_) (by kernel_rfl) (by kernel_rfl) (by kernel_rfl) (by first | exact fun _ _ _ h => h | exact fun _ _ _ h => absurd h.1 (by simp)) (Or.inl ⟨by rfl, ?_⟩) (by assumption) ?_
  rotate_left 1
  focus (intro wx hSw; (try dsimp only at hSw); go_simp; try (with_reducible rfl))
  try simp only [Act.put, List.setIfInBounds_toArray, List.set_cons_zero, List.set_cons_succ]
  refine tk20 (v := ?_) (by kernel_rfl) (by kernel_rfl) (by kernel_rfl) (by first | exact fun _ _ _ h => h | exact fun _ _ _ h => absurd h.1 (by simp)) (Or.inl ⟨by rfl, ?_⟩) (by assumption) ?_
  rotate_left 1
  focus (intro wx hSw; (try dsimp only at hSw); go_simp; try (with_reducible rfl))
  try simp only [Act.put, List.setIfInBounds_toArray, List.set_cons_zero, List.set_cons_succ]
  refine rd21 (by kernel_rfl) (fun K hK => ?_)
  go_simp
  have k5 := cell_far (j := 4) (u := .slice (some ⟨g8, 0, none⟩) (nV + 1) c8) k5 (by decide)
  have k6 := cell_far (j := 4) (u := .slice (some ⟨g8, 0, none⟩) (nV + 1) c8) k6 (by decide)
  refine hK.out _ _ ⟨k5, k6⟩ (fun hHeld => ?_)
  clear hK K
  try simp only [Act.put, List.setIfInBounds_toArray, List.set_cons_zero, List.set_cons_succ]
  refine wpAnyH_done (by kernel_rfl) ?_ _
  go_wp2_with fail
  go_ret
  have hE : exAdd s k t (exNext n (stN s.ms k) t) = ⟨exMs s.ms MM, s.mv ++ [((k : Int), (t : Int), (FN : Int))]⟩ := by unfold exAdd; rw [← HMM.out, ← HFN.out]
  exact ⟨HB8.out.setCell (p := ⟨E, 4, none⟩) HH7.out.bE _, Or.inr (Or.inr ⟨HRN.out, HFO.out.symm, rfl, _, _, by rw [hE]; exact HXP.out⟩)⟩

end Go.Proofs.Ytigkgfdnnfmmmaa
