/- WALK: l6Conflicts of the model. -/
import Derived.BigQuiet
import Derived.Deep.RegionHeld3
import Derived.Test.YtgmnknlnlmcmfaaVCsp
import Derived.Test.YtgmnknlnlmcmfaaVSgwe
namespace Go.Proofs.Ytgmnknlnlmcmfaa
open Go.RowKit

/-- rows, opened for reading -/
theorem RowsOw.opened {B : Nat} {w : World} {v : Value} {L : List (List Int)} (h : RowsOw B w v L) : ∃ (zs : List (Value × List Int)) (av : Option Addr) (cv : Nat), v = .slice av zs.length cv ∧ zs.length ≤ cv ∧ zs.map Prod.snd = L ∧ RowsC B w zs ∧
    (zs.length = 0 ∨ ∃ bb, av = some ⟨bb, 0, none⟩ ∧ bb < w.heap.size ∧ ∀ j (hj : j < zs.length), w.cell? ⟨bb, j, none⟩ = some (zs[j]).1) := by
  obtain ⟨zs, h1, h2, rfl⟩ := h
  have hl : (zs.map Prod.snd).length = zs.length := List.length_map _
  rw [hl] at h1
  rcases h1.2 with ⟨rfl, h0⟩ | ⟨g, cap, cur, rfl, hB, hg, hk, hm, hs, ht⟩
  · exact ⟨zs, none, 0, by rw [h0], by omega, rfl, h2, Or.inl h0⟩
  · refine ⟨zs, _, cap, rfl, hk, rfl, h2, Or.inr ⟨g, rfl, (Array.getElem?_eq_some_iff.1 hg).1, fun j hj => ?_⟩⟩
    have hc : cur[j]? = some zs[j].1 := by
      have h3 : (cur.toList.take (zs.length * 1))[j]? = some zs[j].1 := by rw [ht]; simp [hj]
      rw [List.getElem?_take_of_lt (by omega)] at h3
      rw [← Array.getElem?_toList]; exact h3
    simp [World.cell?, hg, hc]
theorem two_read {B : Nat} {w : World} {v : Value} {i k : Int} (h : IntsOw B w v [i, k]) : ∃ b off c, v = .slice (some ⟨b, off, none⟩) 2 c ∧ 2 ≤ c ∧ w.cell? ⟨b, off, none⟩ = some (.int .i64 i) ∧ w.cell? ⟨b, off + 1, none⟩ = some (.int .i64 k) := by
  obtain ⟨ao, cap, hv, hc, hz⟩ := h
  rcases hz with hz | ⟨b, off, rfl, _, hcell⟩
  · cases hz
  · exact ⟨b, off, cap, hv, hc, (hcell 0 (by simp)).1, (hcell 1 (by simp)).1⟩
theorem take_filter_yes {α : Type} {g : α → Bool} {l : List α} {j : Nat} (hj : j < l.length) (h : g l[j] = true) : (l.take (j + 1)).filter g = (l.take j).filter g ++ [l[j]] := by
  rw [List.take_add_one, List.getElem?_eq_getElem hj, List.filter_append]
  simp [h]
theorem take_filter_no {α : Type} {g : α → Bool} {l : List α} {j : Nat} (hj : j < l.length) (h : g l[j] = false) : (l.take (j + 1)).filter g = (l.take j).filter g := by
  rw [List.take_add_one, List.getElem?_eq_getElem hj, List.filter_append]
  simp [h]
theorem take_any_succ {g : Int → Bool} {l : List Int} {t : Nat} (ht : t < l.length) : (l.take (t + 1)).any g = ((l.take t).any g || g (l.getD t 0)) := by
  rw [List.take_add_one, List.getElem?_eq_getElem ht, List.any_append]
  simp [List.getD, ht]

set_option maxRecDepth 100000 in
set_option maxHeartbeats 8000000 in
theorem l6Conflicts_any (v : Value) (r : SgD) (w : World) (lo : Nat) (hv : SgAt lo w v r) (hs : SmallSg r) (hn : r.codes.length ≤ 4000) (h8 : r.sigs.length ≤ 8) :
    Calls Try.prog 71 #[v] w (RetRr w (prZ (csC r) r.codes.length)) := by
  rw [← cs_rows h8]
  have HV := Lib.hid hv
  obtain ⟨a0, c0, a1, c1, a2, c2, rfl, h_0, h_1, h_2⟩ := hv.form
  clear hv h_0 h_1 h_2
  have HS := Lib.hid hs; clear hs
  obtain ⟨LP, hLP⟩ : ∃ L, L = prZ (eqC r) r.codes.length := ⟨_, rfl⟩
  rw [← hLP]
  have HLP := Lib.hid hLP
  have hlen : LP.length ≤ 16000000 := by rw [hLP]; exact Nat.le_trans (prZ_length _ _) (Nat.mul_le_mul hn hn)
  have HTWO : Hid (∀ z, z ∈ LP → ∃ i k : Int, z = [i, k]) := fun z hz => by
    rw [hLP] at hz
    obtain ⟨p, _, rfl⟩ := List.mem_map.1 hz
    exact ⟨_, _, rfl⟩
  obtain ⟨gz, hgz⟩ : ∃ g, g = unZ r := ⟨_, rfl⟩
  rw [← hgz]
  have HGZ : Hid (∀ i k : Int, gz [i, k] = (enTo (niF r) r.sigs.length).any (fun s => excB r i s != excB r k s)) := fun i k => by rw [hgz]; rfl
  obtain ⟨Lo, hLo⟩ : ∃ L, L = enTo (niF r) r.sigs.length := ⟨_, rfl⟩
  rw [← hLo] at HGZ
  have hlo8 : Lo.length ≤ 8 := by rw [hLo]; exact Nat.le_trans (enTo_length _ _) h8
  have HLO := Lib.hid hLo
  clear hLP hgz hLo h8
  have HN := Lib.hid hn; clear hn
  obtain ⟨ng, hng⟩ : ∃ n, n = r.sigs.length := ⟨_, rfl⟩
  obtain ⟨nc, hnc⟩ : ∃ n, n = r.codes.length := ⟨_, rfl⟩
  obtain ⟨na, hna⟩ : ∃ n, n = r.arcs.length := ⟨_, rfl⟩
  rw [← hng, ← hnc, ← hna] at HV
  rw [← hng, ← hnc, ← hna]
  clear hng hnc hna
  have hal : Below w.heap.size w (w.alloc (.cells #[.slice a0 ng c0, .slice a1 nc c1, .slice a2 na c2] 34)) := (Below.refl _ _).alloc (Nat.le_refl _) _
  have x0 : (w.alloc (.cells #[.slice a0 ng c0, .slice a1 nc c1, .slice a2 na c2] 34)).cell? ⟨w.heap.size, 0, none⟩ = some (.slice a0 ng c0) := by simp
  have x1 : (w.alloc (.cells #[.slice a0 ng c0, .slice a1 nc c1, .slice a2 na c2] 34)).cell? ⟨w.heap.size, 1, none⟩ = some (.slice a1 nc c1) := by simp
  have x2 : (w.alloc (.cells #[.slice a0 ng c0, .slice a1 nc c1, .slice a2 na c2] 34)).cell? ⟨w.heap.size, 2, none⟩ = some (.slice a2 na c2) := by simp
  go_enter Try.func71, Try.ntmps71
  go_wp2_with fail
  generalize w.alloc (.cells #[.slice a0 ng c0, .slice a1 nc c1, .slice a2 na c2] 34) = W0 at x0 x1 x2 hal ⊢
  have z0 := hal.size
  refine (l6Pairs_any _ r W0 lo (HV.out.keep (Carries.of lo hal)) HS.out HN.out).mono ?_
  rintro e W2 ⟨vp, rfl, hP, hb⟩
  rw [← HLP.out] at hP
  have hw2 : Below w.heap.size w W2 := hal.trans (hb.mono z0)
  have x0 := cell_carry x0 (Carries.of 0 hb)
  have x1 := cell_carry x1 (Carries.of 0 hb)
  have x2 := cell_carry x2 (Carries.of 0 hb)
  have z2 := hw2.size
  have z02 := hb.size
  clear hb hal
  obtain ⟨zs, av, cv, rfl, hcv, hzs, hrc, hrd⟩ := hP.opened
  have hzl : zs.length = LP.length := by rw [← hzs, List.length_map]
  obtain ⟨n, hnz⟩ : ∃ n, n = zs.length := ⟨_, rfl⟩
  have hn16 : n ≤ 16000000 := by omega
  rw [← hnz] at hcv
  have hrd' : n = 0 ∨ ∃ bb, av = some ⟨bb, 0, none⟩ ∧ bb < W2.heap.size ∧ ∀ j (hj : j < zs.length), W2.cell? ⟨bb, j, none⟩ = some (zs[j]).1 := by rw [hnz]; exact hrd
  rw [← hnz]
  have HNZ := Lib.hid hnz
  have HZS := Lib.hid hzs
  have HRC := Lib.hid hrc
  have HRD := Lib.hid hrd'
  have hVW := Lib.hid (HV.out.keep (Carries.of lo hw2))
  clear hP hzs hrc hrd hrd' hzl hnz
  go_wp2_with fail
  go_loopw [3, 5, 6, 8, 12] (fun out _ _ _ c wr => ∃ j : Nat, j ≤ n ∧ c = .int .i64 j ∧ Hid (wr.ownsRow W2.heap.size 28 1 out ((zs.take j).filter (fun p => gz p.2)).length (((zs.take j).filter (fun p => gz p.2)).map Prod.fst) ∧ RowsC W0.heap.size wr zs) ∧ Below W2.heap.size W2 wr) (fun _ _ _ _ c _ => n - (intOf c).toNat)
  case atStart => exact ⟨0, Nat.zero_le _, rfl, ⟨World.ownsRow_nil _ _ _ _, HRC.out⟩, Below.refl _ _⟩
  case round =>
    obtain ⟨j, hj, rfl, HI, hb1⟩ := hrel
    have zr := hb1.size
    have x0 := cell_carry x0 (Carries.of 0 hb1)
    have x1 := cell_carry x1 (Carries.of 0 hb1)
    have x2 := cell_carry x2 (Carries.of 0 hb1)
    by_cases hlt : j < n
    · have hjz : j < zs.length := by rw [← HNZ.out]; exact hlt
      rcases HRD.out with h0 | ⟨bb, rfl, hbb, hcell⟩
      · omega
      obtain ⟨i, k, hik⟩ := HTWO.out zs[j].2 (by rw [← HZS.out]; exact List.mem_map_of_mem (List.getElem_mem hjz))
      have hrow := (HI.out.2.1 zs[j] (List.getElem_mem hjz)).1
      rw [hik] at hrow
      obtain ⟨bp, op, cp, hp, hcp, q0, q1⟩ := two_read hrow
      have dj := cell_carry (hcell j hjz) (Carries.of 0 hb1)
      rw [hp] at dj
      have HP := Lib.hid hp
      have HGI := Lib.hid (show gz zs[j].2 = Lo.any (fun s => excB r i s != excB r k s) by rw [hik]; exact HGZ.out i k)
      have HFY := Lib.hid (fun h => take_filter_yes (g := fun p : Value × List Int => gz p.2) hjz h)
      have HFN := Lib.hid (fun h => take_filter_no (g := fun p : Value × List Int => gz p.2) hjz h)
      have hfl : Hid (((zs.take j).filter (fun p => gz p.2)).length ≤ 16000000) := Nat.le_trans (List.length_filter_le _ _) (Nat.le_trans (by rw [List.length_take]; exact Nat.min_le_left _ _) (Nat.le_trans hj hn16))
      clear hcell hrow hik hp
      obtain ⟨wo, hwo⟩ : ∃ wo, wo = wr := ⟨_, rfl⟩
      subst hwo
      have hwbo : Below w.heap.size w wo := hw2.trans (hb1.mono z2)
      have e00 : (0 : Nat) + j = j := Nat.zero_add j
      go_wp2_with fail
      refine (l6Owned_any _ r wo lo (HV.out.keep (Carries.of lo hwbo)) HS.out).mono ?_
      rintro e W4 ⟨vo, rfl, hO, hb4⟩
      rw [← HLO.out] at hO
      have HI4 := Lib.hid (show W4.ownsRow W2.heap.size 28 1 u3 ((zs.take j).filter (fun p => gz p.2)).length (((zs.take j).filter (fun p => gz p.2)).map Prod.fst) ∧ RowsC W0.heap.size W4 zs from ⟨owns_after HI.out.1 hb4, HI.out.2.after hb4⟩)
      have hb5 : Below W2.heap.size W2 W4 := hb1.trans (hb4.mono zr)
      have hw5 : Below w.heap.size w W4 := hwbo.trans (hb4.mono hwbo.size)
      have x0 := cell_carry x0 (Carries.of 0 hb4)
      have x1 := cell_carry x1 (Carries.of 0 hb4)
      have x2 := cell_carry x2 (Carries.of 0 hb4)
      have q0 := cell_carry q0 (Carries.of 0 hb4)
      have q1 := cell_carry q1 (Carries.of 0 hb4)
      have z5 := hb5.size
      obtain ⟨ao, co, rfl, hco, hoz⟩ := hO.at
      have HOZ := Lib.hid hoz
      clear hO hoz HI hb4 dj
      obtain ⟨nl, hnl⟩ : ∃ n, n = Lo.length := ⟨_, rfl⟩
      rw [← hnl] at hlo8 hco ⊢
      have HNL := Lib.hid hnl; clear hnl
      go_wp2_with fail
      go_loopw [6, 8, 19] (fun un _ c wr => ∃ t : Nat, t ≤ nl ∧ c = .int .i64 t ∧ un = .bool ((Lo.take t).any (fun s => excB r i s != excB r k s)) ∧ Below W4.heap.size W4 wr) (fun _ _ c _ => nl - (intOf c).toNat)
      case atStart => exact ⟨0, Nat.zero_le _, rfl, by simp, Below.refl _ _⟩
      case round =>
        obtain ⟨t, ht, rfl, rfl, hb6⟩ := hrel
        have z6 := hb6.size
        have x0 := cell_carry x0 (Carries.of 0 hb6)
        have x1 := cell_carry x1 (Carries.of 0 hb6)
        have x2 := cell_carry x2 (Carries.of 0 hb6)
        have q0 := cell_carry q0 (Carries.of 0 hb6)
        have q1 := cell_carry q1 (Carries.of 0 hb6)
        by_cases htl : t < nl
        · rcases HOZ.out with h0 | ⟨bo, oo, rfl, hloo, hco2⟩
          · have := congrArg List.length h0
            rw [← HNL.out] at this
            simp at this; omega
          have dt := Carries.of _ hb6 _ _ hloo (hco2 t (by rw [← HNL.out]; exact htl))
          have HAN := Lib.hid (take_any_succ (g := fun s => excB r i s != excB r k s) (l := Lo) (t := t) (by rw [← HNL.out]; exact htl))
          have hwq : Below w.heap.size w wr := hw5.trans (hb6.mono hw5.size)
          have HVQ := Lib.hid (HV.out.keep (Carries.of lo hwq))
          clear hco2
          generalize Lo.getD t 0 = s at dt HAN
          cases hun : (Lo.take t).any (fun s => excB r i s != excB r k s) with
          | true =>
            have HAN2 := Lib.hid (show true = (Lo.take (t + 1)).any (fun s => excB r i s != excB r k s) by rw [HAN.out, hun]; rfl)
            clear hun
            go_wp2_with fail
            go_quiet (fail)
            go_wp2_with fail
            go_roundw
            case rel => exact ⟨t + 1, by omega, by go_num, by rw [← HAN2.out], below_drewN hb6 _⟩
            case measure => simp [intOf]; omega
          | false =>
            have HAN2 := Lib.hid (show (excB r i s != excB r k s) = (Lo.take (t + 1)).any (fun s => excB r i s != excB r k s) by rw [HAN.out, hun, Bool.false_or])
            have HX : Hid (∀ (y : Int) (W' : World), Below wr.heap.size wr W' → Calls Try.prog 127 #[.agg #[.slice a0 ng c0, .slice a1 nc c1, .slice a2 na c2], .int .i64 y, .int .i64 s] W' (RetB W' (excB r y s))) := fun y W' h => l5Excited_any _ r y s W' lo (HVQ.out.keep (Carries.of lo h)) HS.out
            clear hun HAN
            go_wp2_with fail
            go_region_held3 (fun w' => w'.cell? ⟨w.heap.size, 0, none⟩ = some (.slice a0 ng c0) ∧ w'.cell? ⟨w.heap.size, 1, none⟩ = some (.slice a1 nc c1) ∧ w'.cell? ⟨w.heap.size, 2, none⟩ = some (.slice a2 na c2) ∧ w'.cell? ⟨bp, op, none⟩ = some (.int .i64 i) ∧ w'.cell? ⟨bp, op + 1, none⟩ = some (.int .i64 k))
              (first
                | exact ⟨cell_carry (cell_carry (w := wr.drew) x0 (Carries.of 0 hb7)) (Carries.of 0 hb8), cell_carry (cell_carry (w := wr.drew) x1 (Carries.of 0 hb7)) (Carries.of 0 hb8), cell_carry (cell_carry (w := wr.drew) x2 (Carries.of 0 hb7)) (Carries.of 0 hb8), cell_carry (cell_carry (w := wr.drew) q0 (Carries.of 0 hb7)) (Carries.of 0 hb8), cell_carry (cell_carry (w := wr.drew) q1 (Carries.of 0 hb7)) (Carries.of 0 hb8)⟩
                | exact ⟨cell_carry (w := wr.drew) x0 (Carries.of 0 hb7), cell_carry (w := wr.drew) x1 (Carries.of 0 hb7), cell_carry (w := wr.drew) x2 (Carries.of 0 hb7), cell_carry (w := wr.drew) q0 (Carries.of 0 hb7), cell_carry (w := wr.drew) q1 (Carries.of 0 hb7)⟩
                | exact ⟨x0, x1, x2, q0, q1⟩)
              (first
                | (go_at_call 127; refine (HX.out k w7 (Below.trans (b := wr.drew) (Below.refl _ _).drew (hb7.mono (by first | exact Nat.le_refl _ | simp)))).mono ?_; rintro e w8 ⟨rfl, hb8⟩)
                | (go_at_call 127; refine (HX.out i wr.drew (Below.refl _ _).drew).mono ?_; rintro e w7 ⟨rfl, hb7⟩))
            all_goals
              have hw8 : Below wr.heap.size wr w8 := Below.trans (b := wr.drew) (Below.refl _ _).drew (Below.trans (hb7.mono (by first | exact Nat.le_refl _ | simp)) (hb8.mono (by have := hb7.size; simp at this; omega)))
              have hb9 : Below W4.heap.size W4 w8 := hb6.trans (hw8.mono z6)
              clear hb7 hb8 hw8
              go_wp2_with fail
              go_roundw
              case rel => exact ⟨t + 1, by omega, by go_num, by rw [← HAN2.out]; rfl, hb9⟩
              case measure => simp [intOf]; omega
        · obtain rfl : t = nl := by omega
          have HAL := Lib.hid (show (Lo.take t).any (fun s => excB r i s != excB r k s) = gz zs[j].2 by rw [HGI.out, List.take_of_length_le (by rw [← HNL.out]; exact Nat.le_refl _)])
          rw [HAL.out]
          have hb7 : Below W2.heap.size W2 wr := hb5.trans (hb6.mono z5)
          have HI6 := Lib.hid (show wr.ownsRow W2.heap.size 28 1 u3 ((zs.take j).filter (fun p => gz p.2)).length (((zs.take j).filter (fun p => gz p.2)).map Prod.fst) ∧ RowsC W0.heap.size wr zs from ⟨owns_after HI4.out.1 hb6, HI4.out.2.after hb6⟩)
          have z7 := hb7.size
          clear HI4 HAL
          cases hgj : gz zs[j].2 with
          | true =>
            have HT := Lib.hid (HFY.out hgj)
            have G1 := Lib.hid HI6.out.1
            have G2 := Lib.hid HI6.out.2
            have hfl' : ((zs.take j).filter (fun p => gz p.2)).length ≤ 16000000 := hfl.out
            clear hgj HI6
            go_wp2_with (refine wpList_append_row rfl (.tmp 41) (.tmp 43) rfl W2.heap.size _ _ _ rfl (World.ownsRow.alloc G1.out _) wr.heap.size (.slice (some ⟨bp, op, none⟩) 2 cp) rfl (by simp) rfl (by omega) (by simp; omega) ?_; intro v' w' hown' hgrow)
            have hrc' := Lib.hid ((G2.out.after ((Below.refl _ _).alloc (Nat.le_refl _) _)).grown (World.ownsRow.alloc G1.out _) hgrow)
            have hb9 : Below W2.heap.size W2 w' := (hb7.alloc (by omega) _).grown hgrow (by simp; omega) (fun g hg => (G1.out.lt g hg).1)
            have hown9 := Lib.hid (show w'.ownsRow W2.heap.size 28 1 v' ((zs.take (j + 1)).filter (fun p => gz p.2)).length (((zs.take (j + 1)).filter (fun p => gz p.2)).map Prod.fst) by
              rw [HT.out, List.length_append, List.map_append, List.map_singleton, HP.out]; exact hown')
            clear hown' hgrow G1 G2 HT
            go_wp2_with fail
            go_roundw
            case rel => exact ⟨j + 1, by omega, by go_num, ⟨hown9.out, hrc'.out⟩, hb9⟩
            case measure => simp [intOf]; omega
          | false =>
            have hI9 := Lib.hid (show wr.ownsRow W2.heap.size 28 1 u3 ((zs.take (j + 1)).filter (fun p => gz p.2)).length (((zs.take (j + 1)).filter (fun p => gz p.2)).map Prod.fst) ∧ RowsC W0.heap.size wr zs by
              rw [HFN.out hgj]; exact HI6.out)
            clear hgj HI6
            go_wp2_with fail
            go_roundw
            case rel => exact ⟨j + 1, by omega, by go_num, hI9, hb7⟩
            case measure => simp [intOf]; omega
    · obtain rfl : j = n := by omega
      have hR := Lib.hid (show RowsOw w.heap.size wr u3 (LP.filter gz) by
        refine ⟨zs.filter (fun p => gz p.2), ?_, (HI.out.2.sub List.filter_sublist).low (by omega), ?_⟩
        · have h := HI.out.1
          rw [List.take_of_length_le (by rw [← HNZ.out]; exact Nat.le_refl _)] at h
          have hl : (LP.filter gz).length = (zs.filter (fun p => gz p.2)).length := by rw [← HZS.out, List.filter_map, List.length_map]; rfl
          rw [hl]
          exact Go.Joins.ownsRow_le h (by omega)
        · rw [← HZS.out, List.filter_map]; rfl)
      obtain ⟨av', cv', rfl, _⟩ := hR.out.cap
      clear HI
      go_wp2_with fail
      go_ret
      exact ⟨_, rfl, hR.out, hw2.trans (hb1.mono z2)⟩

end Go.Proofs.Ytgmnknlnlmcmfaa
