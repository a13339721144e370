/- The walk of BookTells. -/
import Derived.Test.YtgopdnlmiloipadBkO
namespace Go.Proofs.Ytgopdnlmiloipad.Bk
open Go.RowKit
set_option linter.unusedSimpArgs false
set_option linter.unusedVariables false

theorem spE_bad {s : Vsl} {l : List Bkg} {cabin : Int} (h : ¬ P.allE s l = 0) : P.spE s l cabin = P.allE s l ∧ P.spL s l cabin = [] := ⟨by rw [P.spE, if_neg h], by rw [P.spL, if_neg h]⟩
theorem soE_bad {s : Vsl} {l : List Bkg} (h : ¬ P.allE s l = 0) : P.soE s l = P.allE s l ∧ P.soL s l = [] := by
  have e : P.soE s l = P.allE s l := by rw [P.soE, if_neg h]
  exact ⟨e, by rw [P.soL, if_neg (by rw [e]; exact h)]⟩
theorem spE_out {s : Vsl} {l : List Bkg} {cabin : Int} (h : P.allE s l = 0) (hc : P.cabB s cabin = false) : P.spE s l cabin = 3 ∧ P.spL s l cabin = [] := ⟨by rw [P.spE, if_pos h, if_neg (by simp [hc])], by rw [P.spL, if_pos h, if_neg (by simp [hc])]⟩
theorem spE_in {s : Vsl} {l : List Bkg} {cabin : Int} (h : P.allE s l = 0) (hc : P.cabB s cabin = true) : P.spE s l cabin = P.addsE s.legs [] (P.mine cabin l) ∧ P.spL s l cabin = P.addsL s.legs [] (P.mine cabin l) := ⟨by rw [P.spE, if_pos h, if_pos hc], by rw [P.spL, if_pos h, if_pos hc]⟩
theorem checkE_ok {s : Vsl} {b : Bkg} (h : P.shp s = 0) : P.checkE s b = P.bkE s b := by rw [P.checkE, if_pos h]
theorem checkE_bad {s : Vsl} {b : Bkg} (h : ¬ P.shp s = 0) : P.checkE s b = P.shp s := by rw [P.checkE, if_neg h]
theorem mine_06 {s : Vsl} {l : List Bkg} {cabin : Int} (hn : P.sails s.legs = true) (hk : ∀ b ∈ l, P.chk b.frm b.to s.legs = 0) : P.addsE s.legs [] (P.mine cabin l) = 0 ∨ P.addsE s.legs [] (P.mine cabin l) = 6 := by
  refine adds_06 (nil_cal hn) (fun x hx => ?_)
  obtain ⟨y, hy, rfl⟩ := List.mem_map.1 hx
  exact hk y (List.mem_filter.1 hy).1
theorem SpAt.none' (w : World) : Sp.SpAt w none 0 [] := ⟨by simp, by simp [maxLen], fun _ => rfl, fun h => by simp at h⟩
theorem sameShip {s : Vsl} (h : P.shp s = 0) : P.sails s.legs = true := by
  obtain ⟨h1, h7, _⟩ := shp_size h
  simp [P.sails]; omega

set_option maxRecDepth 10000 in
set_option maxHeartbeats 8000000 in
theorem bookTells_bad (s : Vsl) (a : VslA) (b : Bkg) (fo : Option Addr) (fc : Nat) (ao : Option Addr) (cap : Nat) (l : List Bkg) (cabin : Int) (w : World) (hs : VslAt w s a) (hf : Fo.EntsAt w fo fc b.fol) (hl : BksAt w ao cap l) (hL : l.length ≤ 1353245080300) (hne : (P.allE s l == 0) = false) :
    Calls Try.prog 3 #[V.vsl s a, V.bk b fo fc, .slice ao l.length cap, .int .i64 cabin] w fun e w' => e = .returned (.bool true) ∧ Below w.heap.size w w' := by
  have hle := hl.le
  have hmx := hl.max
  unfold maxLen at hmx
  have hbt := two_below w s a b fo fc
  have hbx := two_b w s a b fo fc
  have hvx := two_v w s a b fo fc
  have hne' : ¬ P.allE s l = 0 := by simpa using hne
  have HE : Aside (P.spE s l cabin = P.allE s l ∧ P.spL s l cabin = []) := spE_bad hne'
  have HO : Aside (P.soE s l = P.allE s l ∧ P.soL s l = []) := soE_bad hne'
  have HNE : Aside (¬ P.allE s l = 0) := hne'
  clear hne'
  go_enter Try.func3, Try.ntmps3
  go_wp2_with fail
  refine (spans_any s a ao cap l cabin _ (hs.below hbt) (SlAt.below RBk.mono hl hbt)).mono ?_
  rintro e w1 ⟨v1, rfl, own1, hb1⟩
  rw [HE.out.1]
  rw [HE.out.2] at own1
  obtain ⟨ao1, cap1, rfl, a1⟩ := Sp.Own.at own1
  have hB1 := bvia hbt hb1
  obtain ⟨p0, p1, p2, p3⟩ := hvx.below hb1
  go_wp2_with fail
  refine (souls_any s a ao cap l _ (hs.below hB1) (SlAt.below RBk.mono hl hB1) hL).mono ?_
  rintro e w2 ⟨v2, rfl, own2, hb2⟩
  rw [HO.out.1]
  rw [HO.out.2] at own2
  obtain ⟨ao2, cap2, rfl, a2⟩ := Ma.OwnI.at own2
  have hB2 := bvia hB1 hb2
  have HX2 : Aside (BBox w2 (w.heap.size + 1) b fo fc) := (hbx.below hb1).below hb2
  have HV2 : Aside (VBox w2 w.heap.size s a) := (hvx.below hb1).below hb2
  clear p0 p1 p2 p3 own1 own2
  obtain ⟨p0, p1, p2, p3⟩ := HV2.out
  have t0 := cell_regrown p0
  have t1 := cell_regrown p1
  have t2 := cell_regrown p2
  have t3 := cell_regrown p3
  have HS : Aside (∀ W : World, Below w2.heap.size w2 W → Calls Try.prog 7 #[V.vsl s a] W fun e w' => e = .returned (.int .i64 (P.shp s)) ∧ Below W.heap.size W w') := fun W hW => refShp_any s a W ((hs.below hB2).below hW)
  have HAL : Aside (∀ W : World, Below w2.heap.size w2 W → Calls Try.prog 8 #[V.vsl s a, .slice ao l.length cap] W fun e w' => e = .returned (.int .i64 (P.allE s l)) ∧ Below W.heap.size W w') := fun W hW => refAll_any s a ao cap l W ((hs.below hB2).below hW) (SlAt.below RBk.mono hl (bvia hB2 hW))
  clear hbx hvx hbt p0 p1 p2 p3
  go_wp2
  refine wp_region_quiet_below (by kernel_rfl) (by kernel_rfl) (Qt.out ?_)
  repeat (refine Qt.step (fun K hK => ?_); go_simp; first | (refine hK _ ?_; clear hK K) | (apply Exists.intro; refine ⟨fun _ => ?_, hK _ ?_⟩; (first | (go_at_call 7; exact Calls.regrown_of (v := .int .i64 (P.shp s)) (HS.out _ (below_regrown _ _ _))) | (go_at_call 8; exact Calls.regrown_of (v := .int .i64 (P.allE s l)) (HAL.out _ (below_regrown _ _ _)))); clear hK K))
  refine Qt.fin ?_
  intro w3 hw3
  obtain ⟨⟨dq, osq⟩, hw3⟩ := hw3
  have hb3 := below_regrown w2 dq osq
  rw [← hw3] at hb3
  have hB3 := bvia hB2 hb3
  have HX3 : Aside (BBox w3 (w.heap.size + 1) b fo fc) := HX2.out.below hb3
  have HV3 : Aside (VBox w3 w.heap.size s a) := HV2.out.below hb3
  clear hw3 t0 t1 t2 t3 HS HAL HX2 HV2
  cases hsh : (P.shp s == 0)
  · have HCK : Aside (P.checkE s b = P.shp s) := checkE_bad (by simpa using hsh)
    go_wp2_with fail
    refine (bookBegun_any _).mono ?_
    rintro e wx ⟨rfl, hbx1⟩
    have hBx := bvia hB3 hbx1
    obtain ⟨x0, x1, x2, x3, x4, x5, x6, x7, x8, x9, x10⟩ := HX3.out.below hbx1
    obtain ⟨p0, p1, p2, p3⟩ := HV3.out.below hbx1
    go_wp2_with fail
    refine (bookCheck_any s a b fo fc _ (hs.below hBx) (SlAt.below Fo.REnt.mono hf hBx)).mono ?_
    rintro e wy ⟨rfl, hby⟩
    rw [HCK.out]
    clear x0 x1 x2 x3 x4 x5 x6 x7 x8 x9 x10 p0 p1 p2 p3
    go_wp2_with fail
    refine (Sp.spansAre_any _ none _ 0 [] [] (P.allE s l) _ (a1.below (bvia hb2 (bvia hb3 (bvia hbx1 hby)))) (SpAt.none' _) (by simp)).mono ?_
    rintro e wz ⟨rfl, hbz⟩
    go_wp2_with fail
    refine (Ma.intsAre_any _ none _ 0 [] [] (P.allE s l) (P.allE s l) _ (SlAt.below RInt.mono a2 (bvia hb3 (bvia hbx1 (bvia hby hbz)))) (SlAt.nilOf _)).mono ?_
    rintro e wt ⟨rfl, hbt1⟩
    go_wp2
    go_ret
    exact ⟨ret_bool (by simp [Ma.P.wantI]), bvia hBx (bvia hby (bvia hbz hbt1))⟩
  · have h0 : P.shp s = 0 := by simpa using hsh
    have H0 : Aside (P.shp s = 0) := h0
    have HCK : Aside (P.checkE s b = P.bkE s b) := checkE_ok h0
    clear h0
    obtain ⟨x0, x1, x2, x3, x4, x5, x6, x7, x8, x9, x10⟩ := HX3.out
    obtain ⟨p0, p1, p2, p3⟩ := HV3.out
    go_wp2_with fail
    refine (refBk_any s a b fo fc _ (hs.below hB3) (SlAt.below Fo.REnt.mono hf hB3) H0.out).mono ?_
    rintro e w4 ⟨rfl, hb4⟩
    clear x0 x1 x2 x3 x4 x5 x6 x7 x8 x9 x10 p0 p1 p2 p3
    have HX4 : Aside (BBox w4 (w.heap.size + 1) b fo fc) := HX3.out.below hb4
    have HV4 : Aside (VBox w4 w.heap.size s a) := HV3.out.below hb4
    have hB4 := bvia hB3 hb4
    clear HX3 HV3
    go_wp2_with fail
    refine (bookBegun_any _).mono ?_
    rintro e wx ⟨rfl, hbx1⟩
    have hBx := bvia hB4 hbx1
    obtain ⟨x0, x1, x2, x3, x4, x5, x6, x7, x8, x9, x10⟩ := HX4.out.below hbx1
    obtain ⟨p0, p1, p2, p3⟩ := HV4.out.below hbx1
    go_wp2_with fail
    refine (bookCheck_any s a b fo fc _ (hs.below hBx) (SlAt.below Fo.REnt.mono hf hBx)).mono ?_
    rintro e wy ⟨rfl, hby⟩
    rw [HCK.out]
    clear x0 x1 x2 x3 x4 x5 x6 x7 x8 x9 x10 p0 p1 p2 p3
    go_wp2_with fail
    refine (Sp.spansAre_any _ none _ 0 [] [] (P.allE s l) _ (a1.below (bvia hb2 (bvia hb3 (bvia hb4 (bvia hbx1 hby))))) (SpAt.none' _) (by simp)).mono ?_
    rintro e wz ⟨rfl, hbz⟩
    go_wp2_with fail
    refine (Ma.intsAre_any _ none _ 0 [] [] (P.allE s l) (P.allE s l) _ (SlAt.below RInt.mono a2 (bvia hb3 (bvia hb4 (bvia hbx1 (bvia hby hbz))))) (SlAt.nilOf _)).mono ?_
    rintro e wt ⟨rfl, hbt1⟩
    go_wp2
    go_ret
    exact ⟨ret_bool (by simp [Ma.P.wantI]), bvia hBx (bvia hby (bvia hbz hbt1))⟩

end Go.Proofs.Ytgopdnlmiloipad.Bk
