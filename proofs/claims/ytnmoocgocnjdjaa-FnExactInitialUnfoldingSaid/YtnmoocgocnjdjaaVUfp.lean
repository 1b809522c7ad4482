/- WALKS: produce, newHistory of the program. -/
import Derived.Test.YtnmoocgocnjdjaaVUfh
import Derived.Test.YtnmoocgocnjdjaaVMark
namespace Go.Proofs.Ytnmoocgocnjdjaa
open Go.RowKit

/-- behind a call that adds a condition -/
def RetPush (B H : Nat) (w : World) (P : Int) (vt ve vp : Value) (cs : List Cnd) (es : List Ev) (ps us : List Nat) (e : Ending) (w' : World) : Prop :=
  e = .returned (.tuple #[]) ∧ ∃ vc vu, HisAt B H w' P vt vc ve vp vu cs es ps us ∧ Below B w w'
theorem below_grown {B B' s n : Nat} {a w w' : World} {t : TypeId} {v : Value} {xs : List Value} (h : Below B a w) (hB : B ≤ w.heap.size) (hx : w.ownsRow B' t s v n xs) (hb : B ≤ B') (hg : w.grownBy w' v.ownBlock) : Below B a w' := by
  refine h.trans ⟨hg.os, hg.tape, hg.output, hg.size, fun b hb2 => hg.block b (by omega) ?_⟩
  rcases hx.2 with ⟨rfl, _⟩ | ⟨g, cap, cur, rfl, hq, _⟩
  · simp [Value.ownBlock]
  · simp only [Value.ownBlock, ne_eq, Option.some.injEq]; omega

theorem cell_new1 {w : World} {v : Value} {t : TypeId} {h : Nat} (hh : h = w.heap.size) : (w.alloc (.cells #[v] t)).cell? ⟨h, 0, none⟩ = some v := by
  subst hh; simp
theorem cell_new2 {w : World} {v u : Value} {t : TypeId} {h : Nat} (hh : h = w.heap.size) : (w.alloc (.cells #[v, u] t)).cell? ⟨h, 0, none⟩ = some v ∧ (w.alloc (.cells #[v, u] t)).cell? ⟨h, 1, none⟩ = some u := by
  subst hh; simp

set_option maxRecDepth 100000 in
set_option maxHeartbeats 1000000 in
theorem produce_any (B H : Nat) (w : World) (P : Int) (vt vc ve vp vu : Value) (cs : List Cnd) (es : List Ev) (ps us : List Nat) (p e : Int) (h : HisAt B H w P vt vc ve vp vu cs es ps us) (hc : cs.length ≤ 1073741824) (hu : us.length ≤ 1073741824) (hB : B ≤ w.heap.size) :
    Calls Try.prog 83 #[.pointer (some ⟨H, 0, none⟩), .int .i64 p, .int .i64 e] w (RetPush B H w P vt ve vp (cs ++ [(p, e)]) es ps (us ++ [0])) := by
  have HH := Lib.hid h
  have c2 := h.c2
  have hlt := h.ty.lt
  have hbH := h.bH
  clear h
  go_enter Try.func83, Try.ntmps83
  have HW1 : Below w.heap.size w (w.alloc (.cells #[.int .i64 p, .int .i64 e] 119)) := (Below.refl _ _).alloc (Nat.le_refl _) _
  have HW1B : Below B w (w.alloc (.cells #[.int .i64 p, .int .i64 e] 119)) := (Below.refl _ _).alloc hB _
  have HH1 := Lib.hid (HH.out.after HW1)
  have HB1 := Lib.hid HW1B
  clear HW1 HW1B
  go_wp2_with (first
    | (refine wpList_append_cnd rfl (.tmp 11) (.tmp 15) rfl B _ cs rfl HH1.out.rc w.heap.size p e rfl (by simp) (by simp) hc (by simp; omega) ?_; intro gv kv w' hown hg; obtain ⟨⟨_, _, k2, _, _, _⟩, kf, _⟩ := HH1.out.mid HH1.out.rc (by decide) hg; have kf2 := kf 2; clear kf; have HB2 := Lib.hid (below_grown HB1.out (by simp; omega) HH1.out.rc (Nat.le_refl _) hg); have HH2 := Lib.hid (HH1.out.pushC hown hg); clear hown hg c2; go_must (have c5 := HH2.out.c5; have z2 : B ≤ w'.heap.size := Nat.le_trans hB HB2.out.size; have HB3 := Lib.hid (HB2.out.setCell (p := ⟨H, 2, none⟩) hbH (.slice (some ⟨gv, 0, none⟩) (cs.length + 1) kv)); have HA := Lib.hid (show Below _ _ ((w'.setCell ⟨H, 2, none⟩ (.slice (some ⟨gv, 0, none⟩) (cs.length + 1) kv)).alloc (.cells #[.int .u64 0] 161)) from (Below.refl _ _).alloc (Nat.le_refl _) _); have HH3 := Lib.hid (HH2.out.after HA.out); have HB4 := Lib.hid (HB3.out.alloc (by simpa using z2) (.cells #[.int .u64 0] 161)); clear HB2))
    | (refine wpList_append_set rfl (.tmp 24) (.tmp 25) rfl B _ us rfl HH3.out.ru w'.heap.size 0 rfl (cell_new1 (by simp)) hu (by simp; omega) ?_; intro g cap w2 hown hg hat; obtain ⟨⟨_, _, _, _, _, q5⟩, kf, _⟩ := HH3.out.mid HH3.out.ru (by decide) hg; have kf5 := kf 5; clear kf))
  go_end0
  refine ⟨rfl, _, _, HH3.out.pushU hown hg hat, ?_⟩
  exact (below_grown HB4.out (by simp; omega) HH3.out.ru (Nat.le_refl _) hg).setCell (p := ⟨H, 5, none⟩) hbH _

end Go.Proofs.Ytnmoocgocnjdjaa
