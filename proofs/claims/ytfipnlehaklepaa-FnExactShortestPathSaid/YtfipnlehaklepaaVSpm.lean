/- WALK: l5Moves of the model. -/
import Derived.Test.YtfipnlehaklepaaVStgm
import Derived.Test.YtfipnlehaklepaaVSpd
namespace Go.Proofs.Ytfipnlehaklepaa
open Go.RowKit

def mvTo (ls : List Ar) (k : Nat) : List Mv := (List.range k).map (fun i => (arF ls i, (i : Int), arT ls i))
theorem mvTo_succ (ls : List Ar) (k : Nat) : mvTo ls (k + 1) = mvTo ls k ++ [(arF ls k, (k : Int), arT ls k)] := by
  unfold mvTo
  rw [List.range_succ, List.map_append]
  rfl
theorem mvTo_length (ls : List Ar) (k : Nat) : (mvTo ls k).length = k := by simp [mvTo]
/-- the reachability graph of a state graph's places -/
def rgOf (r : SgD) : RgD := ⟨List.replicate r.codes.length ByteArray.empty, mvsOf r.arcs⟩

set_option maxRecDepth 100000 in
set_option maxHeartbeats 4000000 in
theorem l5Moves_any (v : Value) (r : SgD) (w : World) (lo : Nat) (hv : SgAt lo w v r) (hs : SmallSg r) :
    Calls Try.prog 130 #[v] w (RetRg w (rgOf r)) := by
  obtain ⟨a0, c0, a1, c1, a2, c2, rfl, h_0, h_1, hl⟩ := hv.form
  clear hv h_0 h_1
  have K1 := hs.2.1.1
  have K2 := hs.2.2
  clear hs
  obtain ⟨gs, ss, ls⟩ := r
  unfold rgOf
  simp only at hl K1 K2 ⊢
  obtain ⟨n, hnn⟩ : ∃ n, n = ss.length := ⟨_, rfl⟩
  rw [← hnn] at K1 ⊢
  clear hnn
  obtain ⟨ao, cap, hvv, hc, hz⟩ := hl
  injection hvv with e1 e2 e3
  subst e1; subst e3; clear e2
  have HF := Lib.hid hz; clear hz
  have hmk := run_make_row' (P := Try.prog) 23 9 (.string ByteArray.empty) 16 Try.underlying23 Try.infoStr rfl .i64 .i64 n (by omega) (by omega)
  go_enter Try.func130, Try.ntmps130
  go_wp2_with fail
  have R2 : Hid (((((w.alloc (.cells #[.slice a0 gs.length c0, .slice a1 n c1, .slice a2 ls.length c2] 32)).alloc (.cells #[.slice none 0 0, .slice none 0 0] 59)).alloc (.cells (madeCells #[.string ByteArray.empty] n) 9)).alloc (.cells #[.slice (some ⟨w.heap.size + 1 + 1, 0, none⟩) n n, .slice none 0 0] 59)).rowIs (w.heap.size + 1) 59 2 (fun _ => .slice none 0 0)) := by
    have h := World.rowIs_alloc (w.alloc (.cells #[.slice a0 gs.length c0, .slice a1 n c1, .slice a2 ls.length c2] 32)) #[.slice none 0 0, .slice none 0 0] 59 (fun _ => .slice none 0 0) (fun i hi => by
      have hi : i < 2 := hi
      have : i = 0 ∨ i = 1 := by omega
      rcases this with rfl | rfl <;> rfl)
    rw [World.size_alloc] at h
    exact (h.alloc _).alloc _
  have RS : Hid (((((w.alloc (.cells #[.slice a0 gs.length c0, .slice a1 n c1, .slice a2 ls.length c2] 32)).alloc (.cells #[.slice none 0 0, .slice none 0 0] 59)).alloc (.cells (madeCells #[.string ByteArray.empty] n) 9)).alloc (.cells #[.slice (some ⟨w.heap.size + 1 + 1, 0, none⟩) n n, .slice none 0 0] 59)).rowIs (w.heap.size + 1 + 1) 9 n (fun _ => .string ByteArray.empty)) := by
    have h := World.rowIs_made ((w.alloc (.cells #[.slice a0 gs.length c0, .slice a1 n c1, .slice a2 ls.length c2] 32)).alloc (.cells #[.slice none 0 0, .slice none 0 0] 59)) (.string ByteArray.empty) n 9
    rw [World.size_alloc, World.size_alloc] at h
    exact h.alloc _
  have R3 : Hid (((((w.alloc (.cells #[.slice a0 gs.length c0, .slice a1 n c1, .slice a2 ls.length c2] 32)).alloc (.cells #[.slice none 0 0, .slice none 0 0] 59)).alloc (.cells (madeCells #[.string ByteArray.empty] n) 9)).alloc (.cells #[.slice (some ⟨w.heap.size + 1 + 1, 0, none⟩) n n, .slice none 0 0] 59)).rowIs (w.heap.size + 1 + 1 + 1) 59 2 (fun j => if j = 0 then .slice (some ⟨w.heap.size + 1 + 1, 0, none⟩) n n else .slice none 0 0)) := by
    have h := World.rowIs_alloc (((w.alloc (.cells #[.slice a0 gs.length c0, .slice a1 n c1, .slice a2 ls.length c2] 32)).alloc (.cells #[.slice none 0 0, .slice none 0 0] 59)).alloc (.cells (madeCells #[.string ByteArray.empty] n) 9)) #[.slice (some ⟨w.heap.size + 1 + 1, 0, none⟩) n n, .slice none 0 0] 59 (fun j => if j = 0 then .slice (some ⟨w.heap.size + 1 + 1, 0, none⟩) n n else .slice none 0 0) (fun i hi => by
      have hi : i < 2 := hi
      have : i = 0 ∨ i = 1 := by omega
      rcases this with rfl | rfl <;> rfl)
    rw [World.size_alloc, World.size_alloc, World.size_alloc] at h
    exact h
  have hw0 : Below w.heap.size w ((((w.alloc (.cells #[.slice a0 gs.length c0, .slice a1 n c1, .slice a2 ls.length c2] 32)).alloc (.cells #[.slice none 0 0, .slice none 0 0] 59)).alloc (.cells (madeCells #[.string ByteArray.empty] n) 9)).alloc (.cells #[.slice (some ⟨w.heap.size + 1 + 1, 0, none⟩) n n, .slice none 0 0] 59)) := by (repeat' (first | (with_reducible exact Below.refl _ _) | (with_reducible assumption) | (with_reducible refine Below.alloc ?_ ?_ _) | (with_reducible refine Below.drew ?_) | (with_reducible refine below_drewN ?_ _) | (with_reducible refine Below.setCell ?_ ?_ _) | go_size))
  have z0 : ((((w.alloc (.cells #[.slice a0 gs.length c0, .slice a1 n c1, .slice a2 ls.length c2] 32)).alloc (.cells #[.slice none 0 0, .slice none 0 0] 59)).alloc (.cells (madeCells #[.string ByteArray.empty] n) 9)).alloc (.cells #[.slice (some ⟨w.heap.size + 1 + 1, 0, none⟩) n n, .slice none 0 0] 59)).heap.size = w.heap.size + 1 + 1 + 1 + 1 := by simp
  generalize ((((w.alloc (.cells #[.slice a0 gs.length c0, .slice a1 n c1, .slice a2 ls.length c2] 32)).alloc (.cells #[.slice none 0 0, .slice none 0 0] 59)).alloc (.cells (madeCells #[.string ByteArray.empty] n) 9)).alloc (.cells #[.slice (some ⟨w.heap.size + 1 + 1, 0, none⟩) n n, .slice none 0 0] 59)) = W at R2 RS R3 hw0 z0 ⊢
  go_loopw [14] (fun iv wr => ∃ (i : Nat) (lv : Value), i ≤ ls.length ∧ iv = .int .i64 i ∧ Hid (wr.rowIs (w.heap.size + 1) 59 2 (fun _ => .slice none 0 0)) ∧ Hid (wr.rowIs (w.heap.size + 1 + 1) 9 n (fun _ => .string ByteArray.empty)) ∧
      Hid (wr.rowIs (w.heap.size + 1 + 1 + 1) 59 2 (fun j => if j = 0 then .slice (some ⟨w.heap.size + 1 + 1, 0, none⟩) n n else lv)) ∧ Hid (MRow (w.heap.size + 1 + 1 + 1 + 1) wr lv (mvTo ls i)) ∧ Below w.heap.size w wr ∧ w.heap.size + 1 + 1 + 1 < wr.heap.size) (fun iv _ => ls.length - (intOf iv).toNat)
  case atStart => exact ⟨0, .slice none 0 0, Nat.zero_le _, rfl, R2.out, RS.out, R3.out, MRow.nil _ _, hw0, by omega⟩
  case round =>
    clear R2 RS R3 hw0 z0
    obtain ⟨i, lv, hi, rfl, r2, rs, r3, hmv, hb1, zr⟩ := hrel
    obtain ⟨la, lc, hlv⟩ := hmv.out.form
    rw [mvTo_length] at hlv
    by_cases hil : i < ls.length
    · rcases HF.out with h0 | ⟨b, off, rfl, hlo, hcell⟩
      · omega
      obtain ⟨q0, q1, q2, q3⟩ := hcell i hil
      have d0 := Carries.of lo hb1 _ _ hlo q0
      have d1 := Carries.of lo hb1 _ _ hlo q1
      have d2 := Carries.of lo hb1 _ _ hlo q2
      have d3 := Carries.of lo hb1 _ _ hlo q3
      clear hcell q0 q1 q2 q3
      try dsimp only at d0 d1 d2 d3
      have hsucc := mvTo_succ ls i
      generalize arF ls i = xf at d0 hsucc
      generalize arS ls i = xs at d1
      generalize arU ls i = xu at d2
      generalize arT ls i = xt at d3 hsucc
      have HSU := Lib.hid hsucc; clear hsucc
      have x31 : wr.cell? ⟨w.heap.size + 1 + 1 + 1, 1, none⟩ = some lv := by have h := r3.out.cell (i := 1) (by omega); simpa using h
      have HML := Lib.hid (mvTo_length ls i)
      subst hlv
      have HA := Lib.hid ((World.ownsRow.alloc hmv.out (.cells #[.int .i64 xf, .int .i64 xs, .bool xu, .int .i64 xt] 101)).alloc (.cells #[.int .i64 xf, .int .i64 (i : Int), .int .i64 xt] 112))
      have hg0 := Lib.hid hmv.out.lt
      clear hmv
      go_wp2_with (refine wpList_append_mv rfl (.tmp 20) (.tmp 27) rfl (w.heap.size + 1 + 1 + 1 + 1) _ (mvTo ls i) rfl HA.out (wr.heap.size + 1) (xf, (i : Int), xt) rfl (by simp) (by simp) (by simp) (by rw [HML.out]; omega) (by simp; omega) ?_; intro v' w' hown' hgrow; obtain ⟨va, vc, hva⟩ := MRow.form hown'; rw [show (mvTo ls i ++ [(xf, (i : Int), xt)]).length = i + 1 by rw [List.length_append, HML.out]; rfl] at hva; subst hva; have hR3 := ((r3.out.alloc (.cells #[.int .i64 xf, .int .i64 xs, .bool xu, .int .i64 xt] 101)).alloc (.cells #[.int .i64 xf, .int .i64 (i : Int), .int .i64 xt] 112)).of_block (hgrow.block _ (by simp; omega) (fun h => by have := (hg0.out _ h.symm).1; omega)); have c31 := hR3.cell (i := 1) (by omega); have f31 := hR3.frozen 1)
      have hbw : Below w.heap.size w ((wr.alloc (.cells #[.int .i64 xf, .int .i64 xs, .bool xu, .int .i64 xt] 101)).alloc (.cells #[.int .i64 xf, .int .i64 (i : Int), .int .i64 xt] 112)) := (hb1.alloc hb1.size _).alloc (by simp; have := hb1.size; omega) _
      have hw4 : Below w.heap.size w w' := hbw.grown hgrow (by simp; omega) (fun g hg => by have := (hg0.out g hg).1; omega)
      have hR2 := Lib.hid (((r2.out.alloc (.cells #[.int .i64 xf, .int .i64 xs, .bool xu, .int .i64 xt] 101)).alloc (.cells #[.int .i64 xf, .int .i64 (i : Int), .int .i64 xt] 112)).of_block (hgrow.block _ (by simp; omega) (fun h => by have := (hg0.out _ h.symm).1; omega)))
      have hRS := Lib.hid (((rs.out.alloc (.cells #[.int .i64 xf, .int .i64 xs, .bool xu, .int .i64 xt] 101)).alloc (.cells #[.int .i64 xf, .int .i64 (i : Int), .int .i64 xt] 112)).of_block (hgrow.block _ (by simp; omega) (fun h => by have := (hg0.out _ h.symm).1; omega)))
      have z4 : w.heap.size + 1 + 1 + 1 < w'.heap.size := hR3.lt
      have N2 := Lib.hid (hR2.out.setOther (a := ⟨w.heap.size + 1 + 1 + 1, 1, none⟩) (by show w.heap.size + 1 ≠ w.heap.size + 1 + 1 + 1; omega) (.slice va (i + 1) vc))
      have NS := Lib.hid (hRS.out.setOther (a := ⟨w.heap.size + 1 + 1 + 1, 1, none⟩) (by show w.heap.size + 1 + 1 ≠ w.heap.size + 1 + 1 + 1; omega) (.slice va (i + 1) vc))
      have N3 : Hid ((w'.setCell ⟨w.heap.size + 1 + 1 + 1, 1, none⟩ (.slice va (i + 1) vc)).rowIs (w.heap.size + 1 + 1 + 1) 59 2 (fun j => if j = 0 then .slice (some ⟨w.heap.size + 1 + 1, 0, none⟩) n n else (.slice va (i + 1) vc))) := (hR3.set 1 (.slice va (i + 1) vc)).congr (fun j hj => by
        have : j = 0 ∨ j = 1 := by omega
        rcases this with rfl | rfl <;> rfl)
      have NM : Hid (MRow (w.heap.size + 1 + 1 + 1 + 1) (w'.setCell ⟨w.heap.size + 1 + 1 + 1, 1, none⟩ (.slice va (i + 1) vc)) (.slice va (i + 1) vc) (mvTo ls (i + 1))) := by
        rw [HSU.out]
        exact ownsRow_keep hown' (fun b hb _ => Below.heap_setCell _ _ _ _ (by have := ownsRow_ge hown' hb; show b ≠ w.heap.size + 1 + 1 + 1; omega))
      have NB : Hid (Below w.heap.size w (w'.setCell ⟨w.heap.size + 1 + 1 + 1, 1, none⟩ (.slice va (i + 1) vc))) := hw4.setCell (p := ⟨w.heap.size + 1 + 1 + 1, 1, none⟩) (by show w.heap.size ≤ w.heap.size + 1 + 1 + 1; omega) _
      clear hown' hgrow hbw hw4 hR2 hRS HA
      go_wp2_with fail
      go_roundw
      case rel => exact ⟨i + 1, _, by omega, by go_num, N2.out, NS.out, N3.out, NM.out, NB.out, by simpa using z4⟩
      case measure => simp [intOf]; omega
    · have hii : i = ls.length := by omega
      subst hii
      have x30 : wr.cell? ⟨w.heap.size + 1 + 1 + 1, 0, none⟩ = some (.slice (some ⟨w.heap.size + 1 + 1, 0, none⟩) n n) := by have h := r3.out.cell (i := 0) (by omega); simpa using h
      have x31 : wr.cell? ⟨w.heap.size + 1 + 1 + 1, 1, none⟩ = some lv := by have h := r3.out.cell (i := 1) (by omega); simpa using h
      have y0 := r2.out.cell (i := 0) (by omega)
      have y1 := r2.out.cell (i := 1) (by omega)
      have f0 := r2.out.frozen 0
      have f1 := r2.out.frozen 1
      have g2 := (r2.out.set 0 (.slice (some ⟨w.heap.size + 1 + 1, 0, none⟩) n n)).set 1 lv
      have u0 := g2.cell (i := 0) (by omega)
      have u1 := g2.cell (i := 1) (by omega)
      simp only [if_true, Nat.zero_ne_one, if_false] at u0 u1
      have hRS := Lib.hid ((rs.out.setOther (a := ⟨w.heap.size + 1, 0, none⟩) (by show w.heap.size + 1 + 1 ≠ w.heap.size + 1; omega) (.slice (some ⟨w.heap.size + 1 + 1, 0, none⟩) n n)).setOther (a := ⟨w.heap.size + 1, 1, none⟩) (by show w.heap.size + 1 + 1 ≠ w.heap.size + 1; omega) lv)
      have hNM : Hid (MRow (w.heap.size + 1 + 1 + 1 + 1) ((wr.setCell ⟨w.heap.size + 1, 0, none⟩ (.slice (some ⟨w.heap.size + 1 + 1, 0, none⟩) n n)).setCell ⟨w.heap.size + 1, 1, none⟩ lv) lv (mvTo ls ls.length)) :=
        ownsRow_keep (ownsRow_keep hmv.out (fun b hb _ => Below.heap_setCell _ _ _ _ (by have := ownsRow_ge hmv.out hb; show b ≠ w.heap.size + 1; omega))) (fun b hb _ => Below.heap_setCell _ _ _ _ (by have := ownsRow_ge hmv.out hb; show b ≠ w.heap.size + 1; omega))
      have hBF : Hid (Below w.heap.size w ((wr.setCell ⟨w.heap.size + 1, 0, none⟩ (.slice (some ⟨w.heap.size + 1 + 1, 0, none⟩) n n)).setCell ⟨w.heap.size + 1, 1, none⟩ lv)) := (hb1.setCell (p := ⟨w.heap.size + 1, 0, none⟩) (by show w.heap.size ≤ w.heap.size + 1; omega) _).setCell (p := ⟨w.heap.size + 1, 1, none⟩) (by show w.heap.size ≤ w.heap.size + 1; omega) _
      subst hlv
      clear g2 r2 rs r3 hmv hb1
      go_wp2_with fail
      refine bodyPost_ret (v := .agg #[.slice (some ⟨w.heap.size + 1 + 1, 0, none⟩) n n, .slice la ls.length lc]) (by simp [results, Try.results130, go_sem, u0, u1]) rfl ?_
      refine ⟨_, rfl, ⟨_, _, rfl, ?_, ?_⟩, hBF.out⟩
      · have h := texts_of_row (ss := List.replicate n ByteArray.empty) (by rw [List.length_replicate]; exact hRS.out) (fun i hi => by
          rw [List.length_replicate] at hi
          simp [stN, List.getD, hi])
        rw [List.length_replicate] at h
        exact h.low (by omega)
      · have h := hNM.out.at
        exact MovesAt.low h (by omega)

end Go.Proofs.Ytfipnlehaklepaa
