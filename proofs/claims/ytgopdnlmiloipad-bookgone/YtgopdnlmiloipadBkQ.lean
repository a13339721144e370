/- The walk of BookTells where the ship and all bookings are right. -/
import Derived.Test.YtgopdnlmiloipadBkP
namespace Go.Proofs.Ytgopdnlmiloipad.Bk
open Go.RowKit
set_option linter.unusedSimpArgs false
set_option linter.unusedVariables false

def P.ov (l : List Int) : Int := if P.over l = true then 2 else 0
theorem ov_hit {l : List Int} {k : Nat} {y : Int} (hk : k < l.length) (hd : l.drop k = y :: l.drop (k + 1)) (h : 60 < y) : P.ov (l.take (k + 1)) = 2 := by
  have e := List.take_succ_eq_append_getElem hk
  have h1 := List.drop_eq_getElem_cons hk
  rw [hd] at h1
  simp only [List.cons.injEq] at h1
  rw [P.ov, e, ← h1.1, if_pos (by simp [P.over, h])]
theorem ov_on {l : List Int} {k : Nat} {y : Int} (hk : k < l.length) (hd : l.drop k = y :: l.drop (k + 1)) (h : ¬ 60 < y) : P.ov (l.take (k + 1)) = P.ov (l.take k) := by
  have e := List.take_succ_eq_append_getElem hk
  have h1 := List.drop_eq_getElem_cons hk
  rw [hd] at h1
  simp only [List.cons.injEq] at h1
  have h2 : P.over (l.take (k + 1)) = P.over (l.take k) := by rw [e, ← h1.1]; simp [P.over, h]
  rw [P.ov, P.ov, h2]
theorem soE_ov {s : Vsl} {l : List Bkg} (h : P.allE s l = 0) : P.soE s l = P.ov (P.soulsL s.legs.toNat l) := by rw [P.soE, if_pos h]; rfl
theorem soL_want {s : Vsl} {l : List Bkg} : P.soL s l = Ma.P.wantI (P.soE s l) (P.soulsL s.legs.toNat l) := rfl

set_option maxRecDepth 10000 in
set_option maxHeartbeats 8000000 in
theorem bookTells_low (s : Vsl) (a : VslA) (b : Bkg) (fo : Option Addr) (fc : Nat) (ao : Option Addr) (cap : Nat) (l : List Bkg) (cabin : Int) (w : World) (hs : VslAt w s a) (hf : Fo.EntsAt w fo fc b.fol) (hl : BksAt w ao cap l) (hL : l.length ≤ 1353245080300) (hz : P.allE s l = 0) (hc0 : cabin < 0) :
    Calls Try.prog 3 #[V.vsl s a, V.bk b fo fc, .slice ao l.length cap, .int .i64 cabin] w fun e w' => e = .returned (.bool true) ∧ Below w.heap.size w w' := by
  have hle := hl.le
  have hmx := hl.max
  unfold maxLen at hmx
  have hbt := two_below w s a b fo fc
  have hbx := two_b w s a b fo fc
  have hvx := two_v w s a b fo fc
  obtain ⟨hshp, hbks⟩ := all_ok hz
  obtain ⟨hl1, hl7, _⟩ := shp_size hshp
  obtain ⟨n, hn⟩ : ∃ n : Nat, s.legs = n := ⟨s.legs.toNat, by omega⟩
  have HZ : Aside (P.allE s l = 0) := hz
  have H0 : Aside (P.shp s = 0) := hshp
  have HBK : Aside (∀ b ∈ l, P.bkE s b = 0) := hbks
  have HNL : Aside (s.legs = n) := hn
  have HTN : Aside (s.legs.toNat = n) := by show _ = _; rw [hn]; simp
  have hn7 : n ≤ 7 := by omega
  have HCK : Aside (P.checkE s b = P.bkE s b) := checkE_ok hshp
  have HE : Aside (P.spE s l cabin = 3 ∧ P.spL s l cabin = []) := spE_out hz (cabB_low hc0)
  clear hz hbks hshp hn hl1 hl7
  go_enter Try.func3, Try.ntmps3
  go_wp2_with fail
  refine (spans_any s a ao cap l cabin _ (hs.below hbt) (SlAt.below RBk.mono hl hbt)).mono ?_
  rintro e w1 ⟨v1, rfl, own1, hb1⟩
  rw [HE.out.1]
  rw [HE.out.2] at own1
  obtain ⟨ao1, cap1, rfl, a1⟩ := Sp.Own.at own1
  have hB1 := bvia hbt hb1
  obtain ⟨p0, p1, p2, p3⟩ := hvx.below hb1
  go_wp2_with fail
  refine (souls_any s a ao cap l _ (hs.below hB1) (SlAt.below RBk.mono hl hB1) hL).mono ?_
  rintro e w2 ⟨v2, rfl, own2, hb2⟩
  obtain ⟨ao2, cap2, rfl, a2⟩ := Ma.OwnI.at own2
  have hB2 := bvia hB1 hb2
  have HX2 : Aside (BBox w2 (w.heap.size + 1) b fo fc) := (hbx.below hb1).below hb2
  have HV2 : Aside (VBox w2 w.heap.size s a) := (hvx.below hb1).below hb2
  clear p0 p1 p2 p3 own1 own2
  obtain ⟨p0, p1, p2, p3⟩ := HV2.out
  have t0 := cell_regrown p0
  have t1 := cell_regrown p1
  have t2 := cell_regrown p2
  have t3 := cell_regrown p3
  have HS : Aside (∀ W : World, Below w2.heap.size w2 W → Calls Try.prog 7 #[V.vsl s a] W fun e w' => e = .returned (.int .i64 0) ∧ Below W.heap.size W w') := fun W hW => by have h := refShp_any s a W ((hs.below hB2).below hW); rw [H0.out] at h; exact h
  have HAL : Aside (∀ W : World, Below w2.heap.size w2 W → Calls Try.prog 8 #[V.vsl s a, .slice ao l.length cap] W fun e w' => e = .returned (.int .i64 0) ∧ Below W.heap.size W w') := fun W hW => by have h := refAll_any s a ao cap l W ((hs.below hB2).below hW) (SlAt.below RBk.mono hl (bvia hB2 hW)); rw [HZ.out] at h; exact h
  clear hbx hvx hbt p0 p1 p2 p3
  go_wp2
  refine wp_region_quiet_below (by kernel_rfl) (by kernel_rfl) (Qt.out ?_)
  repeat (refine Qt.step (fun K hK => ?_); go_simp; first | (refine hK _ ?_; clear hK K) | (apply Exists.intro; refine ⟨fun _ => ?_, hK _ ?_⟩; (first | (go_at_call 7; exact Calls.regrown_of (v := .int .i64 0) (HS.out _ (below_regrown _ _ _))) | (go_at_call 8; exact Calls.regrown_of (v := .int .i64 0) (HAL.out _ (below_regrown _ _ _)))); clear hK K))
  refine Qt.fin ?_
  intro w3 hw3
  obtain ⟨⟨dq, osq⟩, hw3⟩ := hw3
  have hb3 := below_regrown w2 dq osq
  rw [← hw3] at hb3
  have hB3 := bvia hB2 hb3
  have HX3 : Aside (BBox w3 (w.heap.size + 1) b fo fc) := HX2.out.below hb3
  have HV3 : Aside (VBox w3 w.heap.size s a) := HV2.out.below hb3
  clear hw3 t0 t1 t2 t3 HS HAL HX2 HV2
  obtain ⟨x0, x1, x2, x3, x4, x5, x6, x7, x8, x9, x10⟩ := HX3.out
  obtain ⟨p0, p1, p2, p3⟩ := HV3.out
  go_wp2_with fail
  refine (refBk_any s a b fo fc _ (hs.below hB3) (SlAt.below Fo.REnt.mono hf hB3) H0.out).mono ?_
  rintro e w4 ⟨rfl, hb4⟩
  clear x0 x1 x2 x3 x4 x5 x6 x7 x8 x9 x10 p0 p1 p2 p3
  have HX4 : Aside (BBox w4 (w.heap.size + 1) b fo fc) := HX3.out.below hb4
  have HV4 : Aside (VBox w4 w.heap.size s a) := HV3.out.below hb4
  have hB4 := bvia hB3 hb4
  clear HX3 HV3
  obtain ⟨p0, p1, p2, p3⟩ := HV4.out
  rw [HNL.out] at p0
  go_wp2_with fail
  refine (soulsOf_any s n ao cap l _ (SlAt.below RBk.mono hl hB4) hL hn7 HNL.out HBK.out).mono ?_
  rintro e w6 ⟨v6, rfl, own6, hb6⟩
  obtain ⟨ao6, cap6, rfl, a6⟩ := Ma.OwnI.at own6
  have hB6 := bvia hB4 hb6
  have HX6 : Aside (BBox w6 (w.heap.size + 1) b fo fc) := HX4.out.below hb6
  have HV6 : Aside (VBox w6 w.heap.size s a) := HV4.out.below hb6
  have hle6 := a6.le
  have hmx6 := a6.max
  unfold maxLen at hmx6
  have HL6 : Aside (P.ov (P.soulsL n l) = P.soE s l) := by show _ = _; rw [soE_ov HZ.out, HTN.out]
  have HW6 : Aside (P.soL s l = Ma.P.wantI (P.soE s l) (P.soulsL n l)) := by show _ = _; rw [soL_want, HTN.out]
  clear p0 p1 p2 p3 own6 HX4 HV4
  generalize P.soulsL n l = SL at a6 hle6 HL6 HW6
  go_wp2
  go_loopg [16, 21] SL.length (fun g x i wr => ∃ (k : Nat), k ≤ SL.length ∧ g = SL.length - k ∧ i = .int .i64 k ∧ x = .int .i64 (P.ov (SL.take k)) ∧ wr = w6)
  case atStart => exact ⟨0, Nat.zero_le _, rfl, rfl, rfl, rfl⟩
  case round =>
    obtain ⟨k, hk, rfl, rfl, rfl, rfl⟩ := hrel
    by_cases hlt : k < SL.length
    · obtain ⟨g6, off6, y, rfl, hg6, hd, hy⟩ := IntsAt.get a6 (Below.refl _ _) k hlt
      have HD : Aside (SL.drop k = y :: SL.drop (k + 1)) := hd
      have hkl : (k : Int) < SL.length := by omega
      clear hd
      by_cases h60 : 60 < y
      · go_wp2
        go_roundg (SL.length - (k + 1))
        case measure => omega
        case rel => exact ⟨k + 1, by omega, rfl, by go_num, by rw [ov_hit hlt HD.out (by omega)], rfl⟩
      · go_wp2
        go_roundg (SL.length - (k + 1))
        case measure => omega
        case rel => exact ⟨k + 1, by omega, rfl, by go_num, by rw [ov_on hlt HD.out (by omega)], rfl⟩
    · obtain rfl : k = SL.length := by omega
      rw [List.take_of_length_le (Nat.le_refl _), HL6.out]
      go_wp2_with fail
      refine (bookBegun_any _).mono ?_
      rintro e wx ⟨rfl, hbx1⟩
      have hBx := bvia hB6 hbx1
      obtain ⟨x0, x1, x2, x3, x4, x5, x6, x7, x8, x9, x10⟩ := HX6.out.below hbx1
      obtain ⟨p0, p1, p2, p3⟩ := HV6.out.below hbx1
      go_wp2_with fail
      refine (bookCheck_any s a b fo fc _ (hs.below hBx) (SlAt.below Fo.REnt.mono hf hBx)).mono ?_
      rintro e wy ⟨rfl, hby⟩
      rw [HCK.out]
      clear x0 x1 x2 x3 x4 x5 x6 x7 x8 x9 x10 p0 p1 p2 p3
      go_wp2_with fail
      refine (Sp.spansAre_any _ none _ 0 [] [] 3 _ (a1.below (bvia hb2 (bvia hb3 (bvia hb4 (bvia hb6 (bvia hbx1 hby)))))) (SpAt.none' _) (by simp)).mono ?_
      rintro e wz ⟨rfl, hbz⟩
      go_wp2_with fail
      refine (Ma.intsAre_any _ _ _ _ (P.soL s l) SL (P.soE s l) (P.soE s l) _ (SlAt.below RInt.mono a2 (bvia hb3 (bvia hb4 (bvia hb6 (bvia hbx1 (bvia hby hbz)))))) (SlAt.below RInt.mono a6 (bvia hbx1 (bvia hby hbz)))).mono ?_
      rintro e wt ⟨rfl, hbt1⟩
      go_wp2
      go_ret
      exact ⟨ret_bool (by rw [← HW6.out]; simp), bvia hBx (bvia hby (bvia hbz hbt1))⟩

set_option maxRecDepth 10000 in
set_option maxHeartbeats 8000000 in
theorem bookTells_high (s : Vsl) (a : VslA) (b : Bkg) (fo : Option Addr) (fc : Nat) (ao : Option Addr) (cap : Nat) (l : List Bkg) (cabin : Int) (w : World) (hs : VslAt w s a) (hf : Fo.EntsAt w fo fc b.fol) (hl : BksAt w ao cap l) (hL : l.length ≤ 1353245080300) (hz : P.allE s l = 0) (hc1 : (s.bs.length : Int) ≤ cabin) (hc0 : ¬ cabin < 0) :
    Calls Try.prog 3 #[V.vsl s a, V.bk b fo fc, .slice ao l.length cap, .int .i64 cabin] w fun e w' => e = .returned (.bool true) ∧ Below w.heap.size w w' := by
  have hle := hl.le
  have hmx := hl.max
  unfold maxLen at hmx
  have hbt := two_below w s a b fo fc
  have hbx := two_b w s a b fo fc
  have hvx := two_v w s a b fo fc
  obtain ⟨hshp, hbks⟩ := all_ok hz
  obtain ⟨hl1, hl7, _⟩ := shp_size hshp
  obtain ⟨n, hn⟩ : ∃ n : Nat, s.legs = n := ⟨s.legs.toNat, by omega⟩
  have HZ : Aside (P.allE s l = 0) := hz
  have H0 : Aside (P.shp s = 0) := hshp
  have HBK : Aside (∀ b ∈ l, P.bkE s b = 0) := hbks
  have HNL : Aside (s.legs = n) := hn
  have HTN : Aside (s.legs.toNat = n) := by show _ = _; rw [hn]; simp
  have hn7 : n ≤ 7 := by omega
  have HCK : Aside (P.checkE s b = P.bkE s b) := checkE_ok hshp
  have HE : Aside (P.spE s l cabin = 3 ∧ P.spL s l cabin = []) := spE_out hz (cabB_high hc1)
  clear hz hbks hshp hn hl1 hl7
  go_enter Try.func3, Try.ntmps3
  go_wp2_with fail
  refine (spans_any s a ao cap l cabin _ (hs.below hbt) (SlAt.below RBk.mono hl hbt)).mono ?_
  rintro e w1 ⟨v1, rfl, own1, hb1⟩
  rw [HE.out.1]
  rw [HE.out.2] at own1
  obtain ⟨ao1, cap1, rfl, a1⟩ := Sp.Own.at own1
  have hB1 := bvia hbt hb1
  obtain ⟨p0, p1, p2, p3⟩ := hvx.below hb1
  go_wp2_with fail
  refine (souls_any s a ao cap l _ (hs.below hB1) (SlAt.below RBk.mono hl hB1) hL).mono ?_
  rintro e w2 ⟨v2, rfl, own2, hb2⟩
  obtain ⟨ao2, cap2, rfl, a2⟩ := Ma.OwnI.at own2
  have hB2 := bvia hB1 hb2
  have HX2 : Aside (BBox w2 (w.heap.size + 1) b fo fc) := (hbx.below hb1).below hb2
  have HV2 : Aside (VBox w2 w.heap.size s a) := (hvx.below hb1).below hb2
  clear p0 p1 p2 p3 own1 own2
  obtain ⟨p0, p1, p2, p3⟩ := HV2.out
  have t0 := cell_regrown p0
  have t1 := cell_regrown p1
  have t2 := cell_regrown p2
  have t3 := cell_regrown p3
  have HS : Aside (∀ W : World, Below w2.heap.size w2 W → Calls Try.prog 7 #[V.vsl s a] W fun e w' => e = .returned (.int .i64 0) ∧ Below W.heap.size W w') := fun W hW => by have h := refShp_any s a W ((hs.below hB2).below hW); rw [H0.out] at h; exact h
  have HAL : Aside (∀ W : World, Below w2.heap.size w2 W → Calls Try.prog 8 #[V.vsl s a, .slice ao l.length cap] W fun e w' => e = .returned (.int .i64 0) ∧ Below W.heap.size W w') := fun W hW => by have h := refAll_any s a ao cap l W ((hs.below hB2).below hW) (SlAt.below RBk.mono hl (bvia hB2 hW)); rw [HZ.out] at h; exact h
  clear hbx hvx hbt p0 p1 p2 p3
  go_wp2
  refine wp_region_quiet_below (by kernel_rfl) (by kernel_rfl) (Qt.out ?_)
  repeat (refine Qt.step (fun K hK => ?_); go_simp; first | (refine hK _ ?_; clear hK K) | (apply Exists.intro; refine ⟨fun _ => ?_, hK _ ?_⟩; (first | (go_at_call 7; exact Calls.regrown_of (v := .int .i64 0) (HS.out _ (below_regrown _ _ _))) | (go_at_call 8; exact Calls.regrown_of (v := .int .i64 0) (HAL.out _ (below_regrown _ _ _)))); clear hK K))
  refine Qt.fin ?_
  intro w3 hw3
  obtain ⟨⟨dq, osq⟩, hw3⟩ := hw3
  have hb3 := below_regrown w2 dq osq
  rw [← hw3] at hb3
  have hB3 := bvia hB2 hb3
  have HX3 : Aside (BBox w3 (w.heap.size + 1) b fo fc) := HX2.out.below hb3
  have HV3 : Aside (VBox w3 w.heap.size s a) := HV2.out.below hb3
  clear hw3 t0 t1 t2 t3 HS HAL HX2 HV2
  obtain ⟨x0, x1, x2, x3, x4, x5, x6, x7, x8, x9, x10⟩ := HX3.out
  obtain ⟨p0, p1, p2, p3⟩ := HV3.out
  go_wp2_with fail
  refine (refBk_any s a b fo fc _ (hs.below hB3) (SlAt.below Fo.REnt.mono hf hB3) H0.out).mono ?_
  rintro e w4 ⟨rfl, hb4⟩
  clear x0 x1 x2 x3 x4 x5 x6 x7 x8 x9 x10 p0 p1 p2 p3
  have HX4 : Aside (BBox w4 (w.heap.size + 1) b fo fc) := HX3.out.below hb4
  have HV4 : Aside (VBox w4 w.heap.size s a) := HV3.out.below hb4
  have hB4 := bvia hB3 hb4
  clear HX3 HV3
  obtain ⟨p0, p1, p2, p3⟩ := HV4.out
  rw [HNL.out] at p0
  go_wp2_with fail
  refine (soulsOf_any s n ao cap l _ (SlAt.below RBk.mono hl hB4) hL hn7 HNL.out HBK.out).mono ?_
  rintro e w6 ⟨v6, rfl, own6, hb6⟩
  obtain ⟨ao6, cap6, rfl, a6⟩ := Ma.OwnI.at own6
  have hB6 := bvia hB4 hb6
  have HX6 : Aside (BBox w6 (w.heap.size + 1) b fo fc) := HX4.out.below hb6
  have HV6 : Aside (VBox w6 w.heap.size s a) := HV4.out.below hb6
  have hle6 := a6.le
  have hmx6 := a6.max
  unfold maxLen at hmx6
  have HL6 : Aside (P.ov (P.soulsL n l) = P.soE s l) := by show _ = _; rw [soE_ov HZ.out, HTN.out]
  have HW6 : Aside (P.soL s l = Ma.P.wantI (P.soE s l) (P.soulsL n l)) := by show _ = _; rw [soL_want, HTN.out]
  clear p0 p1 p2 p3 own6 HX4 HV4
  generalize P.soulsL n l = SL at a6 hle6 HL6 HW6
  go_wp2
  go_loopg [16, 21] SL.length (fun g x i wr => ∃ (k : Nat), k ≤ SL.length ∧ g = SL.length - k ∧ i = .int .i64 k ∧ x = .int .i64 (P.ov (SL.take k)) ∧ wr = w6)
  case atStart => exact ⟨0, Nat.zero_le _, rfl, rfl, rfl, rfl⟩
  case round =>
    obtain ⟨k, hk, rfl, rfl, rfl, rfl⟩ := hrel
    by_cases hlt : k < SL.length
    · obtain ⟨g6, off6, y, rfl, hg6, hd, hy⟩ := IntsAt.get a6 (Below.refl _ _) k hlt
      have HD : Aside (SL.drop k = y :: SL.drop (k + 1)) := hd
      have hkl : (k : Int) < SL.length := by omega
      clear hd
      by_cases h60 : 60 < y
      · go_wp2
        go_roundg (SL.length - (k + 1))
        case measure => omega
        case rel => exact ⟨k + 1, by omega, rfl, by go_num, by rw [ov_hit hlt HD.out (by omega)], rfl⟩
      · go_wp2
        go_roundg (SL.length - (k + 1))
        case measure => omega
        case rel => exact ⟨k + 1, by omega, rfl, by go_num, by rw [ov_on hlt HD.out (by omega)], rfl⟩
    · obtain rfl : k = SL.length := by omega
      rw [List.take_of_length_le (Nat.le_refl _), HL6.out]
      go_wp2_with fail
      refine (bookBegun_any _).mono ?_
      rintro e wx ⟨rfl, hbx1⟩
      have hBx := bvia hB6 hbx1
      obtain ⟨x0, x1, x2, x3, x4, x5, x6, x7, x8, x9, x10⟩ := HX6.out.below hbx1
      obtain ⟨p0, p1, p2, p3⟩ := HV6.out.below hbx1
      go_wp2_with fail
      refine (bookCheck_any s a b fo fc _ (hs.below hBx) (SlAt.below Fo.REnt.mono hf hBx)).mono ?_
      rintro e wy ⟨rfl, hby⟩
      rw [HCK.out]
      clear x0 x1 x2 x3 x4 x5 x6 x7 x8 x9 x10 p0 p1 p2 p3
      go_wp2_with fail
      refine (Sp.spansAre_any _ none _ 0 [] [] 3 _ (a1.below (bvia hb2 (bvia hb3 (bvia hb4 (bvia hb6 (bvia hbx1 hby)))))) (SpAt.none' _) (by simp)).mono ?_
      rintro e wz ⟨rfl, hbz⟩
      go_wp2_with fail
      refine (Ma.intsAre_any _ _ _ _ (P.soL s l) SL (P.soE s l) (P.soE s l) _ (SlAt.below RInt.mono a2 (bvia hb3 (bvia hb4 (bvia hb6 (bvia hbx1 (bvia hby hbz)))))) (SlAt.below RInt.mono a6 (bvia hbx1 (bvia hby hbz)))).mono ?_
      rintro e wt ⟨rfl, hbt1⟩
      go_wp2
      go_ret
      exact ⟨ret_bool (by rw [← HW6.out]; simp), bvia hBx (bvia hby (bvia hbz hbt1))⟩

set_option maxRecDepth 10000 in
set_option maxHeartbeats 8000000 in
theorem bookTells_in (s : Vsl) (a : VslA) (b : Bkg) (fo : Option Addr) (fc : Nat) (ao : Option Addr) (cap : Nat) (l : List Bkg) (cabin : Int) (w : World) (hs : VslAt w s a) (hf : Fo.EntsAt w fo fc b.fol) (hl : BksAt w ao cap l) (hL : l.length ≤ 1353245080300) (hz : P.allE s l = 0) (hc0 : ¬ cabin < 0) (hc1 : cabin < s.bs.length) (ha : P.addsE s.legs [] (P.mine cabin l) = 0) :
    Calls Try.prog 3 #[V.vsl s a, V.bk b fo fc, .slice ao l.length cap, .int .i64 cabin] w fun e w' => e = .returned (.bool true) ∧ Below w.heap.size w w' := by
  have hle := hl.le
  have hmx := hl.max
  unfold maxLen at hmx
  have hbt := two_below w s a b fo fc
  have hbx := two_b w s a b fo fc
  have hvx := two_v w s a b fo fc
  obtain ⟨hshp, hbks⟩ := all_ok hz
  obtain ⟨hl1, hl7, _⟩ := shp_size hshp
  obtain ⟨n, hn⟩ : ∃ n : Nat, s.legs = n := ⟨s.legs.toNat, by omega⟩
  have HZ : Aside (P.allE s l = 0) := hz
  have H0 : Aside (P.shp s = 0) := hshp
  have HBK : Aside (∀ b ∈ l, P.bkE s b = 0) := hbks
  have HNL : Aside (s.legs = n) := hn
  have HTN : Aside (s.legs.toNat = n) := by show _ = _; rw [hn]; simp
  have hn7 : n ≤ 7 := by omega
  have HCK : Aside (P.checkE s b = P.bkE s b) := checkE_ok hshp
  have HSL : Aside (P.sails s.legs = true) := sameShip hshp
  have HCH : Aside (∀ b ∈ l, P.chk b.frm b.to s.legs = 0) := fun b hb => (bk_ok (hbks b hb)).1
  have HE : Aside (P.spE s l cabin = 0 ∧ P.spL s l cabin = P.addsL s.legs [] (P.mine cabin l)) := by
    obtain ⟨e1, e2⟩ := spE_in hz (cabB_in hc0 hc1)
    exact ⟨e1.trans ha, e2⟩
  have HAD : Aside (P.addsB s.legs (P.mine cabin l) = true) := by show _ = _; simp [P.addsB, ha]
  clear ha
  generalize hAL : P.addsL s.legs [] (P.mine cabin l) = AL at HE
  clear hz hbks hshp hn hl1 hl7
  go_enter Try.func3, Try.ntmps3
  go_wp2_with fail
  refine (spans_any s a ao cap l cabin _ (hs.below hbt) (SlAt.below RBk.mono hl hbt)).mono ?_
  rintro e w1 ⟨v1, rfl, own1, hb1⟩
  rw [HE.out.1]
  rw [HE.out.2] at own1
  obtain ⟨ao1, cap1, rfl, a1⟩ := Sp.Own.at own1
  have hB1 := bvia hbt hb1
  obtain ⟨p0, p1, p2, p3⟩ := hvx.below hb1
  go_wp2_with fail
  refine (souls_any s a ao cap l _ (hs.below hB1) (SlAt.below RBk.mono hl hB1) hL).mono ?_
  rintro e w2 ⟨v2, rfl, own2, hb2⟩
  obtain ⟨ao2, cap2, rfl, a2⟩ := Ma.OwnI.at own2
  have hB2 := bvia hB1 hb2
  have HX2 : Aside (BBox w2 (w.heap.size + 1) b fo fc) := (hbx.below hb1).below hb2
  have HV2 : Aside (VBox w2 w.heap.size s a) := (hvx.below hb1).below hb2
  clear p0 p1 p2 p3 own1 own2
  obtain ⟨p0, p1, p2, p3⟩ := HV2.out
  have t0 := cell_regrown p0
  have t1 := cell_regrown p1
  have t2 := cell_regrown p2
  have t3 := cell_regrown p3
  have HS : Aside (∀ W : World, Below w2.heap.size w2 W → Calls Try.prog 7 #[V.vsl s a] W fun e w' => e = .returned (.int .i64 0) ∧ Below W.heap.size W w') := fun W hW => by have h := refShp_any s a W ((hs.below hB2).below hW); rw [H0.out] at h; exact h
  have HAL : Aside (∀ W : World, Below w2.heap.size w2 W → Calls Try.prog 8 #[V.vsl s a, .slice ao l.length cap] W fun e w' => e = .returned (.int .i64 0) ∧ Below W.heap.size W w') := fun W hW => by have h := refAll_any s a ao cap l W ((hs.below hB2).below hW) (SlAt.below RBk.mono hl (bvia hB2 hW)); rw [HZ.out] at h; exact h
  clear hbx hvx hbt p0 p1 p2 p3
  go_wp2
  refine wp_region_quiet_below (by kernel_rfl) (by kernel_rfl) (Qt.out ?_)
  repeat (refine Qt.step (fun K hK => ?_); go_simp; first | (refine hK _ ?_; clear hK K) | (apply Exists.intro; refine ⟨fun _ => ?_, hK _ ?_⟩; (first | (go_at_call 7; exact Calls.regrown_of (v := .int .i64 0) (HS.out _ (below_regrown _ _ _))) | (go_at_call 8; exact Calls.regrown_of (v := .int .i64 0) (HAL.out _ (below_regrown _ _ _)))); clear hK K))
  refine Qt.fin ?_
  intro w3 hw3
  obtain ⟨⟨dq, osq⟩, hw3⟩ := hw3
  have hb3 := below_regrown w2 dq osq
  rw [← hw3] at hb3
  have hB3 := bvia hB2 hb3
  have HX3 : Aside (BBox w3 (w.heap.size + 1) b fo fc) := HX2.out.below hb3
  have HV3 : Aside (VBox w3 w.heap.size s a) := HV2.out.below hb3
  clear hw3 t0 t1 t2 t3 HS HAL HX2 HV2
  obtain ⟨x0, x1, x2, x3, x4, x5, x6, x7, x8, x9, x10⟩ := HX3.out
  obtain ⟨p0, p1, p2, p3⟩ := HV3.out
  go_wp2_with fail
  refine (refBk_any s a b fo fc _ (hs.below hB3) (SlAt.below Fo.REnt.mono hf hB3) H0.out).mono ?_
  rintro e w4 ⟨rfl, hb4⟩
  clear x0 x1 x2 x3 x4 x5 x6 x7 x8 x9 x10 p0 p1 p2 p3
  have HX4 : Aside (BBox w4 (w.heap.size + 1) b fo fc) := HX3.out.below hb4
  have HV4 : Aside (VBox w4 w.heap.size s a) := HV3.out.below hb4
  have hB4 := bvia hB3 hb4
  clear HX3 HV3
  obtain ⟨pp0, pp1, pp2, pp3⟩ := HV4.out
  go_wp2_with fail
  refine (spansOf_any s.legs ao cap l cabin _ (SlAt.below RBk.mono hl hB4) HSL.out HCH.out).mono ?_
  rintro e w5 ⟨v5, rfl, own5, hb5⟩
  rw [HAD.out]
  rw [hAL] at own5
  obtain ⟨ao5, cap5, rfl, a5⟩ := Sp.Own.at own5
  have hB5 := bvia hB4 hb5
  have HX5 : Aside (BBox w5 (w.heap.size + 1) b fo fc) := HX4.out.below hb5
  have HV5 : Aside (VBox w5 w.heap.size s a) := HV4.out.below hb5
  clear pp0 pp1 pp2 pp3 own5 HX4 HV4
  obtain ⟨p0, p1, p2, p3⟩ := HV5.out
  rw [HNL.out] at p0
  go_wp2_with fail
  refine (soulsOf_any s n ao cap l _ (SlAt.below RBk.mono hl hB5) hL hn7 HNL.out HBK.out).mono ?_
  rintro e w6 ⟨v6, rfl, own6, hb6⟩
  obtain ⟨ao6, cap6, rfl, a6⟩ := Ma.OwnI.at own6
  have hB6 := bvia hB5 hb6
  have HX6 : Aside (BBox w6 (w.heap.size + 1) b fo fc) := HX5.out.below hb6
  have HV6 : Aside (VBox w6 w.heap.size s a) := HV5.out.below hb6
  have hle6 := a6.le
  have hmx6 := a6.max
  unfold maxLen at hmx6
  have HL6 : Aside (P.ov (P.soulsL n l) = P.soE s l) := by show _ = _; rw [soE_ov HZ.out, HTN.out]
  have HW6 : Aside (P.soL s l = Ma.P.wantI (P.soE s l) (P.soulsL n l)) := by show _ = _; rw [soL_want, HTN.out]
  clear p0 p1 p2 p3 own6 HX5 HV5
  generalize P.soulsL n l = SL at a6 hle6 HL6 HW6
  go_wp2
  go_loopg [16, 21] SL.length (fun g x i wr => ∃ (k : Nat), k ≤ SL.length ∧ g = SL.length - k ∧ i = .int .i64 k ∧ x = .int .i64 (P.ov (SL.take k)) ∧ wr = w6)
  case atStart => exact ⟨0, Nat.zero_le _, rfl, rfl, rfl, rfl⟩
  case round =>
    obtain ⟨k, hk, rfl, rfl, rfl, rfl⟩ := hrel
    by_cases hlt : k < SL.length
    · obtain ⟨g6, off6, y, rfl, hg6, hd, hy⟩ := IntsAt.get a6 (Below.refl _ _) k hlt
      have HD : Aside (SL.drop k = y :: SL.drop (k + 1)) := hd
      have hkl : (k : Int) < SL.length := by omega
      clear hd
      by_cases h60 : 60 < y
      · go_wp2
        go_roundg (SL.length - (k + 1))
        case measure => omega
        case rel => exact ⟨k + 1, by omega, rfl, by go_num, by rw [ov_hit hlt HD.out (by omega)], rfl⟩
      · go_wp2
        go_roundg (SL.length - (k + 1))
        case measure => omega
        case rel => exact ⟨k + 1, by omega, rfl, by go_num, by rw [ov_on hlt HD.out (by omega)], rfl⟩
    · obtain rfl : k = SL.length := by omega
      rw [List.take_of_length_le (Nat.le_refl _), HL6.out]
      go_wp2_with fail
      refine (bookBegun_any _).mono ?_
      rintro e wx ⟨rfl, hbx1⟩
      have hBx := bvia hB6 hbx1
      obtain ⟨x0, x1, x2, x3, x4, x5, x6, x7, x8, x9, x10⟩ := HX6.out.below hbx1
      obtain ⟨p0, p1, p2, p3⟩ := HV6.out.below hbx1
      go_wp2_with fail
      refine (bookCheck_any s a b fo fc _ (hs.below hBx) (SlAt.below Fo.REnt.mono hf hBx)).mono ?_
      rintro e wy ⟨rfl, hby⟩
      rw [HCK.out]
      clear x0 x1 x2 x3 x4 x5 x6 x7 x8 x9 x10 p0 p1 p2 p3
      go_wp2_with fail
      refine (Sp.spansAre_any _ _ _ _ AL AL 0 _ (a1.below (bvia hb2 (bvia hb3 (bvia hb4 (bvia hb5 (bvia hb6 (bvia hbx1 hby))))))) (a5.below (bvia hb6 (bvia hbx1 hby))) (by simp)).mono ?_
      rintro e wz ⟨rfl, hbz⟩
      go_wp2_with fail
      refine (Ma.intsAre_any _ _ _ _ (P.soL s l) SL (P.soE s l) (P.soE s l) _ (SlAt.below RInt.mono a2 (bvia hb3 (bvia hb4 (bvia hb5 (bvia hb6 (bvia hbx1 (bvia hby hbz))))))) (SlAt.below RInt.mono a6 (bvia hbx1 (bvia hby hbz)))).mono ?_
      rintro e wt ⟨rfl, hbt1⟩
      go_wp2
      go_ret
      exact ⟨ret_bool (by rw [← HW6.out]; simp), bvia hBx (bvia hby (bvia hbz hbt1))⟩

set_option maxRecDepth 10000 in
set_option maxHeartbeats 8000000 in
theorem bookTells_twice (s : Vsl) (a : VslA) (b : Bkg) (fo : Option Addr) (fc : Nat) (ao : Option Addr) (cap : Nat) (l : List Bkg) (cabin : Int) (w : World) (hs : VslAt w s a) (hf : Fo.EntsAt w fo fc b.fol) (hl : BksAt w ao cap l) (hL : l.length ≤ 1353245080300) (hz : P.allE s l = 0) (hc0 : ¬ cabin < 0) (hc1 : cabin < s.bs.length) (ha : P.addsE s.legs [] (P.mine cabin l) = 6) :
    Calls Try.prog 3 #[V.vsl s a, V.bk b fo fc, .slice ao l.length cap, .int .i64 cabin] w fun e w' => e = .returned (.bool true) ∧ Below w.heap.size w w' := by
  have hle := hl.le
  have hmx := hl.max
  unfold maxLen at hmx
  have hbt := two_below w s a b fo fc
  have hbx := two_b w s a b fo fc
  have hvx := two_v w s a b fo fc
  obtain ⟨hshp, hbks⟩ := all_ok hz
  obtain ⟨hl1, hl7, _⟩ := shp_size hshp
  obtain ⟨n, hn⟩ : ∃ n : Nat, s.legs = n := ⟨s.legs.toNat, by omega⟩
  have HZ : Aside (P.allE s l = 0) := hz
  have H0 : Aside (P.shp s = 0) := hshp
  have HBK : Aside (∀ b ∈ l, P.bkE s b = 0) := hbks
  have HNL : Aside (s.legs = n) := hn
  have HTN : Aside (s.legs.toNat = n) := by show _ = _; rw [hn]; simp
  have hn7 : n ≤ 7 := by omega
  have HCK : Aside (P.checkE s b = P.bkE s b) := checkE_ok hshp
  have HSL : Aside (P.sails s.legs = true) := sameShip hshp
  have HCH : Aside (∀ b ∈ l, P.chk b.frm b.to s.legs = 0) := fun b hb => (bk_ok (hbks b hb)).1
  have HN : Aside (P.addsL s.legs [] (P.mine cabin l) = []) := addsL_of (by rw [ha]; decide)
  have HE : Aside (P.spE s l cabin = 6 ∧ P.spL s l cabin = []) := by
    obtain ⟨e1, e2⟩ := spE_in hz (cabB_in hc0 hc1)
    exact ⟨e1.trans ha, e2.trans HN.out⟩
  have HAD : Aside (P.addsB s.legs (P.mine cabin l) = false) := by show _ = _; simp [P.addsB, ha]
  clear ha
  clear hz hbks hshp hn hl1 hl7
  go_enter Try.func3, Try.ntmps3
  go_wp2_with fail
  refine (spans_any s a ao cap l cabin _ (hs.below hbt) (SlAt.below RBk.mono hl hbt)).mono ?_
  rintro e w1 ⟨v1, rfl, own1, hb1⟩
  rw [HE.out.1]
  rw [HE.out.2] at own1
  obtain ⟨ao1, cap1, rfl, a1⟩ := Sp.Own.at own1
  have hB1 := bvia hbt hb1
  obtain ⟨p0, p1, p2, p3⟩ := hvx.below hb1
  go_wp2_with fail
  refine (souls_any s a ao cap l _ (hs.below hB1) (SlAt.below RBk.mono hl hB1) hL).mono ?_
  rintro e w2 ⟨v2, rfl, own2, hb2⟩
  obtain ⟨ao2, cap2, rfl, a2⟩ := Ma.OwnI.at own2
  have hB2 := bvia hB1 hb2
  have HX2 : Aside (BBox w2 (w.heap.size + 1) b fo fc) := (hbx.below hb1).below hb2
  have HV2 : Aside (VBox w2 w.heap.size s a) := (hvx.below hb1).below hb2
  clear p0 p1 p2 p3 own1 own2
  obtain ⟨p0, p1, p2, p3⟩ := HV2.out
  have t0 := cell_regrown p0
  have t1 := cell_regrown p1
  have t2 := cell_regrown p2
  have t3 := cell_regrown p3
  have HS : Aside (∀ W : World, Below w2.heap.size w2 W → Calls Try.prog 7 #[V.vsl s a] W fun e w' => e = .returned (.int .i64 0) ∧ Below W.heap.size W w') := fun W hW => by have h := refShp_any s a W ((hs.below hB2).below hW); rw [H0.out] at h; exact h
  have HAL : Aside (∀ W : World, Below w2.heap.size w2 W → Calls Try.prog 8 #[V.vsl s a, .slice ao l.length cap] W fun e w' => e = .returned (.int .i64 0) ∧ Below W.heap.size W w') := fun W hW => by have h := refAll_any s a ao cap l W ((hs.below hB2).below hW) (SlAt.below RBk.mono hl (bvia hB2 hW)); rw [HZ.out] at h; exact h
  clear hbx hvx hbt p0 p1 p2 p3
  go_wp2
  refine wp_region_quiet_below (by kernel_rfl) (by kernel_rfl) (Qt.out ?_)
  repeat (refine Qt.step (fun K hK => ?_); go_simp; first | (refine hK _ ?_; clear hK K) | (apply Exists.intro; refine ⟨fun _ => ?_, hK _ ?_⟩; (first | (go_at_call 7; exact Calls.regrown_of (v := .int .i64 0) (HS.out _ (below_regrown _ _ _))) | (go_at_call 8; exact Calls.regrown_of (v := .int .i64 0) (HAL.out _ (below_regrown _ _ _)))); clear hK K))
  refine Qt.fin ?_
  intro w3 hw3
  obtain ⟨⟨dq, osq⟩, hw3⟩ := hw3
  have hb3 := below_regrown w2 dq osq
  rw [← hw3] at hb3
  have hB3 := bvia hB2 hb3
  have HX3 : Aside (BBox w3 (w.heap.size + 1) b fo fc) := HX2.out.below hb3
  have HV3 : Aside (VBox w3 w.heap.size s a) := HV2.out.below hb3
  clear hw3 t0 t1 t2 t3 HS HAL HX2 HV2
  obtain ⟨x0, x1, x2, x3, x4, x5, x6, x7, x8, x9, x10⟩ := HX3.out
  obtain ⟨p0, p1, p2, p3⟩ := HV3.out
  go_wp2_with fail
  refine (refBk_any s a b fo fc _ (hs.below hB3) (SlAt.below Fo.REnt.mono hf hB3) H0.out).mono ?_
  rintro e w4 ⟨rfl, hb4⟩
  clear x0 x1 x2 x3 x4 x5 x6 x7 x8 x9 x10 p0 p1 p2 p3
  have HX4 : Aside (BBox w4 (w.heap.size + 1) b fo fc) := HX3.out.below hb4
  have HV4 : Aside (VBox w4 w.heap.size s a) := HV3.out.below hb4
  have hB4 := bvia hB3 hb4
  clear HX3 HV3
  obtain ⟨pp0, pp1, pp2, pp3⟩ := HV4.out
  go_wp2_with fail
  refine (spansOf_any s.legs ao cap l cabin _ (SlAt.below RBk.mono hl hB4) HSL.out HCH.out).mono ?_
  rintro e w5 ⟨v5, rfl, own5, hb5⟩
  rw [HAD.out]
  rw [HN.out] at own5
  obtain ⟨ao5, cap5, rfl, a5⟩ := Sp.Own.at own5
  have hB5 := bvia hB4 hb5
  have HX5 : Aside (BBox w5 (w.heap.size + 1) b fo fc) := HX4.out.below hb5
  have HV5 : Aside (VBox w5 w.heap.size s a) := HV4.out.below hb5
  clear pp0 pp1 pp2 pp3 own5 HX4 HV4
  obtain ⟨p0, p1, p2, p3⟩ := HV5.out
  rw [HNL.out] at p0
  go_wp2_with fail
  refine (soulsOf_any s n ao cap l _ (SlAt.below RBk.mono hl hB5) hL hn7 HNL.out HBK.out).mono ?_
  rintro e w6 ⟨v6, rfl, own6, hb6⟩
  obtain ⟨ao6, cap6, rfl, a6⟩ := Ma.OwnI.at own6
  have hB6 := bvia hB5 hb6
  have HX6 : Aside (BBox w6 (w.heap.size + 1) b fo fc) := HX5.out.below hb6
  have HV6 : Aside (VBox w6 w.heap.size s a) := HV5.out.below hb6
  have hle6 := a6.le
  have hmx6 := a6.max
  unfold maxLen at hmx6
  have HL6 : Aside (P.ov (P.soulsL n l) = P.soE s l) := by show _ = _; rw [soE_ov HZ.out, HTN.out]
  have HW6 : Aside (P.soL s l = Ma.P.wantI (P.soE s l) (P.soulsL n l)) := by show _ = _; rw [soL_want, HTN.out]
  clear p0 p1 p2 p3 own6 HX5 HV5
  generalize P.soulsL n l = SL at a6 hle6 HL6 HW6
  go_wp2
  go_loopg [16, 21] SL.length (fun g x i wr => ∃ (k : Nat), k ≤ SL.length ∧ g = SL.length - k ∧ i = .int .i64 k ∧ x = .int .i64 (P.ov (SL.take k)) ∧ wr = w6)
  case atStart => exact ⟨0, Nat.zero_le _, rfl, rfl, rfl, rfl⟩
  case round =>
    obtain ⟨k, hk, rfl, rfl, rfl, rfl⟩ := hrel
    by_cases hlt : k < SL.length
    · obtain ⟨g6, off6, y, rfl, hg6, hd, hy⟩ := IntsAt.get a6 (Below.refl _ _) k hlt
      have HD : Aside (SL.drop k = y :: SL.drop (k + 1)) := hd
      have hkl : (k : Int) < SL.length := by omega
      clear hd
      by_cases h60 : 60 < y
      · go_wp2
        go_roundg (SL.length - (k + 1))
        case measure => omega
        case rel => exact ⟨k + 1, by omega, rfl, by go_num, by rw [ov_hit hlt HD.out (by omega)], rfl⟩
      · go_wp2
        go_roundg (SL.length - (k + 1))
        case measure => omega
        case rel => exact ⟨k + 1, by omega, rfl, by go_num, by rw [ov_on hlt HD.out (by omega)], rfl⟩
    · obtain rfl : k = SL.length := by omega
      rw [List.take_of_length_le (Nat.le_refl _), HL6.out]
      go_wp2_with fail
      refine (bookBegun_any _).mono ?_
      rintro e wx ⟨rfl, hbx1⟩
      have hBx := bvia hB6 hbx1
      obtain ⟨x0, x1, x2, x3, x4, x5, x6, x7, x8, x9, x10⟩ := HX6.out.below hbx1
      obtain ⟨p0, p1, p2, p3⟩ := HV6.out.below hbx1
      go_wp2_with fail
      refine (bookCheck_any s a b fo fc _ (hs.below hBx) (SlAt.below Fo.REnt.mono hf hBx)).mono ?_
      rintro e wy ⟨rfl, hby⟩
      rw [HCK.out]
      clear x0 x1 x2 x3 x4 x5 x6 x7 x8 x9 x10 p0 p1 p2 p3
      go_wp2_with fail
      refine (Sp.spansAre_any _ _ _ _ [] [] 6 _ (a1.below (bvia hb2 (bvia hb3 (bvia hb4 (bvia hb5 (bvia hb6 (bvia hbx1 hby))))))) (a5.below (bvia hb6 (bvia hbx1 hby))) (by simp)).mono ?_
      rintro e wz ⟨rfl, hbz⟩
      go_wp2_with fail
      refine (Ma.intsAre_any _ _ _ _ (P.soL s l) SL (P.soE s l) (P.soE s l) _ (SlAt.below RInt.mono a2 (bvia hb3 (bvia hb4 (bvia hb5 (bvia hb6 (bvia hbx1 (bvia hby hbz))))))) (SlAt.below RInt.mono a6 (bvia hbx1 (bvia hby hbz)))).mono ?_
      rintro e wt ⟨rfl, hbt1⟩
      go_wp2
      go_ret
      exact ⟨ret_bool (by rw [← HW6.out]; simp), bvia hBx (bvia hby (bvia hbz hbt1))⟩

theorem bookTells_walk (s : Vsl) (a : VslA) (b : Bkg) (fo : Option Addr) (fc : Nat) (ao : Option Addr) (cap : Nat) (l : List Bkg) (cabin : Int) (w : World) (hs : VslAt w s a) (hf : Fo.EntsAt w fo fc b.fol) (hl : BksAt w ao cap l) (hL : l.length ≤ 1353245080300) :
    Calls Try.prog 3 #[V.vsl s a, V.bk b fo fc, .slice ao l.length cap, .int .i64 cabin] w fun e w' => e = .returned (.bool true) ∧ Below w.heap.size w w' := by
  cases hz : (P.allE s l == 0)
  · exact bookTells_bad s a b fo fc ao cap l cabin w hs hf hl hL hz
  · have hz0 : P.allE s l = 0 := by simpa using hz
    obtain ⟨hshp, hbks⟩ := all_ok hz0
    by_cases hc0 : cabin < 0
    · exact bookTells_low s a b fo fc ao cap l cabin w hs hf hl hL hz0 hc0
    by_cases hc1 : cabin < s.bs.length
    · rcases mine_06 (cabin := cabin) (sameShip hshp) (fun b hb => (bk_ok (hbks b hb)).1) with ha | ha
      · exact bookTells_in s a b fo fc ao cap l cabin w hs hf hl hL hz0 hc0 hc1 ha
      · exact bookTells_twice s a b fo fc ao cap l cabin w hs hf hl hL hz0 hc0 hc1 ha
    · exact bookTells_high s a b fo fc ao cap l cabin w hs hf hl hL hz0 (by omega) hc0

end Go.Proofs.Ytgopdnlmiloipad.Bk
