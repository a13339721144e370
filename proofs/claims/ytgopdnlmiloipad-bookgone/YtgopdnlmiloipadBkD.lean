/- Walks of checkOn, checkAll, Check. -/
import Derived.Test.YtgopdnlmiloipadBkC
namespace Go.Proofs.Ytgopdnlmiloipad.Bk
open Go.RowKit
set_option linter.unusedSimpArgs false
set_option linter.unusedVariables false

section
variable {s : Vsl} {b : Bkg}
theorem bkE_kind (h : (P.btw b.kind 1 2 && P.btw b.state 1 3) = false) : P.bkE s b = 7 := by rw [P.bkE, if_neg (by simp [h])]
theorem bkE_range (h : (P.btw b.kind 1 2 && P.btw b.state 1 3) = true) (h1 : (P.btw b.id 1 999999 && P.btw b.guests 1 4) = false) : P.bkE s b = 3 := by rw [P.bkE, if_pos h, if_neg (by simp [h1])]
theorem bkE_span (h : (P.btw b.kind 1 2 && P.btw b.state 1 3) = true) (h1 : (P.btw b.id 1 999999 && P.btw b.guests 1 4) = true) (h2 : (P.chk b.frm b.to s.legs != 0) = true) : P.bkE s b = P.chk b.frm b.to s.legs := by
  rw [P.bkE, if_pos h, if_pos h1, if_neg (by simpa using h2)]
theorem bkE_kindE (h : (P.btw b.kind 1 2 && P.btw b.state 1 3) = true) (h1 : (P.btw b.id 1 999999 && P.btw b.guests 1 4) = true) (h2 : (P.chk b.frm b.to s.legs != 0) = false) (h3 : (P.kindE s b != 0) = true) : P.bkE s b = P.kindE s b := by
  rw [P.bkE, if_pos h, if_pos h1, if_pos (by simpa using h2), if_neg (by simpa using h3)]
theorem bkE_til (h : (P.btw b.kind 1 2 && P.btw b.state 1 3) = true) (h1 : (P.btw b.id 1 999999 && P.btw b.guests 1 4) = true) (h2 : (P.chk b.frm b.to s.legs != 0) = false) (h3 : (P.kindE s b != 0) = false) (h4 : P.btw b.til 0 9999 = false) : P.bkE s b = 3 := by
  rw [P.bkE, if_pos h, if_pos h1, if_pos (by simpa using h2), if_pos (by simpa using h3), if_neg (by simp [h4])]
theorem bkE_form (h : (P.btw b.kind 1 2 && P.btw b.state 1 3) = true) (h1 : (P.btw b.id 1 999999 && P.btw b.guests 1 4) = true) (h2 : (P.chk b.frm b.to s.legs != 0) = false) (h3 : (P.kindE s b != 0) = false) (h4 : P.btw b.til 0 9999 = true)
    (h5 : b.til ≠ 0 ∧ b.state ≠ 1) : P.bkE s b = 1 := by
  rw [P.bkE, if_pos h, if_pos h1, if_pos (by simpa using h2), if_pos (by simpa using h3), if_pos h4, if_pos h5]
theorem bkE_fol (h : (P.btw b.kind 1 2 && P.btw b.state 1 3) = true) (h1 : (P.btw b.id 1 999999 && P.btw b.guests 1 4) = true) (h2 : (P.chk b.frm b.to s.legs != 0) = false) (h3 : (P.kindE s b != 0) = false) (h4 : P.btw b.til 0 9999 = true)
    (h5 : ¬ (b.til ≠ 0 ∧ b.state ≠ 1)) : P.bkE s b = Fo.P.folE b.fol := by
  rw [P.bkE, if_pos h, if_pos h1, if_pos (by simpa using h2), if_pos (by simpa using h3), if_pos h4, if_neg h5]
end

set_option maxHeartbeats 4000000 in
theorem checkOn_any (s : Vsl) (a : VslA) (b : Bkg) (fo : Option Addr) (fc : Nat) (w : World) (hs : VslAt w s a) (hf : Fo.EntsAt w fo fc b.fol) (h0 : P.shp s = 0) :
    Calls Try.prog 38 #[V.vsl s a, V.bk b fo fc] w fun e w' => e = .returned (.int .i64 (P.bkE s b)) ∧ Below w.heap.size w w' := by
  have hbt := two_below w s a b fo fc
  have hbx := two_b w s a b fo fc
  have hvx := two_v w s a b fo fc
  cases hk : P.btw b.kind 1 2
  · have HE : Aside (P.bkE s b = 7) := bkE_kind (by rw [hk]; rfl)
    go_enter Try.func38, Try.ntmps38
    go_wp2_with (go_at_call 39; refine (within_any _ _ _ _).mono ?_; rintro e w1 ⟨rfl, rfl⟩; first | rw [hk])
    go_ret
    exact ⟨ret_int HE.out.symm, hbt⟩
  cases hst : P.btw b.state 1 3
  · have HE : Aside (P.bkE s b = 7) := bkE_kind (by rw [hk, hst]; rfl)
    go_enter Try.func38, Try.ntmps38
    go_wp2_with (go_at_call 39; refine (within_any _ _ _ _).mono ?_; rintro e w1 ⟨rfl, rfl⟩; first | rw [hk] | rw [hst])
    go_ret
    exact ⟨ret_int HE.out.symm, hbt⟩
  have H1 : Aside ((P.btw b.kind 1 2 && P.btw b.state 1 3) = true) := by show _ = _; rw [hk, hst]; rfl
  cases hid : P.btw b.id 1 999999
  · have HE : Aside (P.bkE s b = 3) := bkE_range H1.out (by rw [hid]; rfl)
    go_enter Try.func38, Try.ntmps38
    go_wp2_with (go_at_call 39; refine (within_any _ _ _ _).mono ?_; rintro e w1 ⟨rfl, rfl⟩; first | rw [hk] | rw [hst] | rw [hid])
    go_ret
    exact ⟨ret_int HE.out.symm, hbt⟩
  cases hg : P.btw b.guests 1 4
  · have HE : Aside (P.bkE s b = 3) := bkE_range H1.out (by rw [hid, hg]; rfl)
    go_enter Try.func38, Try.ntmps38
    go_wp2_with (go_at_call 39; refine (within_any _ _ _ _).mono ?_; rintro e w1 ⟨rfl, rfl⟩; first | rw [hk] | rw [hst] | rw [hid] | rw [hg])
    go_ret
    exact ⟨ret_int HE.out.symm, hbt⟩
  have H2 : Aside ((P.btw b.id 1 999999 && P.btw b.guests 1 4) = true) := by show _ = _; rw [hid, hg]; rfl
  cases hz : (P.chk b.frm b.to s.legs != 0)
  rotate_left
  · have HE : Aside (P.bkE s b = P.chk b.frm b.to s.legs) := bkE_span H1.out H2.out hz
    go_enter Try.func38, Try.ntmps38
    go_wp2_with (first
      | (go_at_call 39; refine (within_any _ _ _ _).mono ?_; rintro e w1 ⟨rfl, rfl⟩; first | rw [hk] | rw [hst] | rw [hid] | rw [hg])
      | (go_at_call 54; refine (Sp.check_any _ _ _ _).mono ?_; rintro e w1 ⟨rfl, hb1⟩))
    go_ret
    exact ⟨ret_int HE.out.symm, bvia hbt hb1⟩
  cases hq : (P.kindE s b != 0)
  rotate_left
  · have HE : Aside (P.bkE s b = P.kindE s b) := bkE_kindE H1.out H2.out hz hq
    go_enter Try.func38, Try.ntmps38
    go_wp2_with (first
      | (go_at_call 39; refine (within_any _ _ _ _).mono ?_; rintro e w1 ⟨rfl, rfl⟩; first | rw [hk] | rw [hst] | rw [hid] | rw [hg])
      | (go_at_call 54; refine (Sp.check_any _ _ _ _).mono ?_; rintro e w1 ⟨rfl, hb1⟩; obtain ⟨x0, x1, x2, x3, x4, x5, x6, x7, x8, x9, x10⟩ := hbx.below hb1; obtain ⟨v0, v1, v2, v3⟩ := hvx.below hb1)
      | (go_at_call 55; refine (checkKind_any s a b fo fc _ (hs.below (bvia hbt hb1)) h0).mono ?_; rintro e w2 ⟨rfl, hb2⟩))
    go_ret
    exact ⟨ret_int HE.out.symm, bvia (bvia hbt hb1) hb2⟩
  cases ht : P.btw b.til 0 9999
  · have HE : Aside (P.bkE s b = 3) := bkE_til H1.out H2.out hz hq ht
    go_enter Try.func38, Try.ntmps38
    go_wp2_with (first
      | (go_at_call 39; refine (within_any _ _ _ _).mono ?_; rintro e w1 ⟨rfl, rfl⟩; first | rw [hk] | rw [hst] | rw [hid] | rw [hg] | rw [ht])
      | (go_at_call 54; refine (Sp.check_any _ _ _ _).mono ?_; rintro e w1 ⟨rfl, hb1⟩; obtain ⟨x0, x1, x2, x3, x4, x5, x6, x7, x8, x9, x10⟩ := hbx.below hb1; obtain ⟨v0, v1, v2, v3⟩ := hvx.below hb1)
      | (go_at_call 55; refine (checkKind_any s a b fo fc _ (hs.below (bvia hbt hb1)) h0).mono ?_; rintro e w2 ⟨rfl, hb2⟩; obtain ⟨z0, z1, z2, z3, z4, z5, z6, z7, z8, z9, z10⟩ := (hbx.below hb1).below hb2))
    go_ret
    exact ⟨ret_int HE.out.symm, bvia (bvia hbt hb1) hb2⟩
  cases hu : (b.til != 0)
  · have HE : Aside (P.bkE s b = Fo.P.folE b.fol) := bkE_fol H1.out H2.out hz hq ht (by simp at hu; simp [hu])
    go_enter Try.func38, Try.ntmps38
    go_wp2_with (first
      | (go_at_call 39; refine (within_any _ _ _ _).mono ?_; rintro e w1 ⟨rfl, rfl⟩; first | rw [hk] | rw [hst] | rw [hid] | rw [hg] | rw [ht])
      | (go_at_call 54; refine (Sp.check_any _ _ _ _).mono ?_; rintro e w1 ⟨rfl, hb1⟩; obtain ⟨x0, x1, x2, x3, x4, x5, x6, x7, x8, x9, x10⟩ := hbx.below hb1; obtain ⟨v0, v1, v2, v3⟩ := hvx.below hb1)
      | (go_at_call 55; refine (checkKind_any s a b fo fc _ (hs.below (bvia hbt hb1)) h0).mono ?_; rintro e w2 ⟨rfl, hb2⟩; obtain ⟨z0, z1, z2, z3, z4, z5, z6, z7, z8, z9, z10⟩ := (hbx.below hb1).below hb2)
      | (go_at_call 56; refine (Fo.folCheck_any fo fc b.fol _ (SlAt.below Fo.REnt.mono hf (bvia (bvia hbt hb1) hb2))).mono ?_; rintro e w3 ⟨rfl, hb3⟩))
    go_ret
    exact ⟨ret_int HE.out.symm, bvia (bvia (bvia hbt hb1) hb2) hb3⟩
  · cases hv : (b.state != 1)
    · have HE : Aside (P.bkE s b = Fo.P.folE b.fol) := bkE_fol H1.out H2.out hz hq ht (by simp at hv; simp [hv])
      go_enter Try.func38, Try.ntmps38
      go_wp2_with (first
        | (go_at_call 39; refine (within_any _ _ _ _).mono ?_; rintro e w1 ⟨rfl, rfl⟩; first | rw [hk] | rw [hst] | rw [hid] | rw [hg] | rw [ht])
        | (go_at_call 54; refine (Sp.check_any _ _ _ _).mono ?_; rintro e w1 ⟨rfl, hb1⟩; obtain ⟨x0, x1, x2, x3, x4, x5, x6, x7, x8, x9, x10⟩ := hbx.below hb1; obtain ⟨v0, v1, v2, v3⟩ := hvx.below hb1)
        | (go_at_call 55; refine (checkKind_any s a b fo fc _ (hs.below (bvia hbt hb1)) h0).mono ?_; rintro e w2 ⟨rfl, hb2⟩; obtain ⟨z0, z1, z2, z3, z4, z5, z6, z7, z8, z9, z10⟩ := (hbx.below hb1).below hb2)
        | (go_at_call 56; refine (Fo.folCheck_any fo fc b.fol _ (SlAt.below Fo.REnt.mono hf (bvia (bvia hbt hb1) hb2))).mono ?_; rintro e w3 ⟨rfl, hb3⟩))
      go_ret
      exact ⟨ret_int HE.out.symm, bvia (bvia (bvia hbt hb1) hb2) hb3⟩
    · have HE : Aside (P.bkE s b = 1) := bkE_form H1.out H2.out hz hq ht (by simp at hu hv; exact ⟨hu, hv⟩)
      go_enter Try.func38, Try.ntmps38
      go_wp2_with (first
        | (go_at_call 39; refine (within_any _ _ _ _).mono ?_; rintro e w1 ⟨rfl, rfl⟩; first | rw [hk] | rw [hst] | rw [hid] | rw [hg] | rw [ht])
        | (go_at_call 54; refine (Sp.check_any _ _ _ _).mono ?_; rintro e w1 ⟨rfl, hb1⟩; obtain ⟨x0, x1, x2, x3, x4, x5, x6, x7, x8, x9, x10⟩ := hbx.below hb1; obtain ⟨v0, v1, v2, v3⟩ := hvx.below hb1)
        | (go_at_call 55; refine (checkKind_any s a b fo fc _ (hs.below (bvia hbt hb1)) h0).mono ?_; rintro e w2 ⟨rfl, hb2⟩; obtain ⟨z0, z1, z2, z3, z4, z5, z6, z7, z8, z9, z10⟩ := (hbx.below hb1).below hb2))
      go_ret
      exact ⟨ret_int HE.out.symm, bvia (bvia hbt hb1) hb2⟩

/-- G1. -/
def P.checkE (s : Vsl) (b : Bkg) : Int := if P.shp s = 0 then P.bkE s b else P.shp s

set_option maxHeartbeats 1000000 in
theorem bookCheck_any (s : Vsl) (a : VslA) (b : Bkg) (fo : Option Addr) (fc : Nat) (w : World) (hs : VslAt w s a) (hf : Fo.EntsAt w fo fc b.fol) :
    Calls Try.prog 13 #[V.vsl s a, V.bk b fo fc] w fun e w' => e = .returned (.int .i64 (P.checkE s b)) ∧ Below w.heap.size w w' := by
  have hbt := two_below w s a b fo fc
  have hbx := two_b w s a b fo fc
  have hvx := two_v w s a b fo fc
  cases hz : (P.shp s != 0)
  · have hz0 : P.shp s = 0 := by simpa using hz
    have HE : Aside (P.checkE s b = P.bkE s b) := by show _ = _; rw [P.checkE, if_pos hz0]
    have HZ : Aside (P.shp s = 0) := hz0
    clear hz0
    go_enter Try.func13, Try.ntmps13
    go_wp2_with (first
      | (go_at_call 37; refine (shp_any s a _ (hs.below hbt)).mono ?_; rintro e w1 ⟨rfl, hb1⟩; obtain ⟨x0, x1, x2, x3, x4, x5, x6, x7, x8, x9, x10⟩ := hbx.below hb1; obtain ⟨v0, v1, v2, v3⟩ := hvx.below hb1)
      | (go_at_call 38; refine (checkOn_any s a b fo fc _ (hs.below (bvia hbt hb1)) (SlAt.below Fo.REnt.mono hf (bvia hbt hb1)) HZ.out).mono ?_; rintro e w2 ⟨rfl, hb2⟩))
    go_ret
    exact ⟨ret_int HE.out.symm, bvia (bvia hbt hb1) hb2⟩
  · have HE : Aside (P.checkE s b = P.shp s) := by show _ = _; rw [P.checkE, if_neg (by simpa using hz)]
    go_enter Try.func13, Try.ntmps13
    go_wp2_with (go_at_call 37; refine (shp_any s a _ (hs.below hbt)).mono ?_; rintro e w1 ⟨rfl, hb1⟩)
    go_ret
    exact ⟨ret_int HE.out.symm, bvia hbt hb1⟩

end Go.Proofs.Ytgopdnlmiloipad.Bk
