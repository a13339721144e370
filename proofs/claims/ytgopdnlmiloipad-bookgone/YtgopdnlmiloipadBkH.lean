/- The reference: CheckBooking. -/
import Derived.Test.YtgopdnlmiloipadBkF
import Derived.Test.YtgopdnlmiloipadBkG
namespace Go.Proofs.Ytgopdnlmiloipad.Bk
open Go.RowKit
set_option linter.unusedSimpArgs false
set_option linter.unusedVariables false

theorem namedE_low {s : Vsl} {b : Bkg} (h : P.cabB s b.cabin = false) : P.namedE s b = 3 := by rw [P.namedE, if_neg (by simp [h])]
theorem namedE_cat {s : Vsl} {b : Bkg} (h : P.cabB s b.cabin = true) (h6 : (b.cat == 0) = false) : P.namedE s b = 1 := by rw [P.namedE, if_pos h, if_neg (by simpa using h6)]
theorem namedE_fit {s : Vsl} {b : Bkg} (h : P.cabB s b.cabin = true) (h6 : (b.cat == 0) = true) : P.namedE s b = if P.suits (P.cabAt s b.cabin) b = true then 0 else 4 := by rw [P.namedE, if_pos h, if_pos (by simpa using h6)]
theorem kindE_1 {s : Vsl} {b : Bkg} (h : (b.kind == 1) = true) : P.kindE s b = P.namedE s b := by rw [P.kindE, if_pos (by simpa using h)]
theorem kindE_2 {s : Vsl} {b : Bkg} (h : (b.kind == 1) = false) : P.kindE s b = P.promE s b := by rw [P.kindE, if_neg (by simpa using h)]
theorem cabB_low {s : Vsl} {n : Int} (h : n < 0) : P.cabB s n = false := by simp [P.cabB, P.btw]; omega
theorem cabB_high {s : Vsl} {n : Int} (h : (s.bs.length : Int) ≤ n) : P.cabB s n = false := by simp [P.cabB, P.btw]; omega
theorem cabB_in {s : Vsl} {n : Int} (h0 : ¬ n < 0) (h : n < s.bs.length) : P.cabB s n = true := by simp [P.cabB, P.btw]; omega

set_option maxHeartbeats 4000000 in
theorem refBk_early (s : Vsl) (a : VslA) (b : Bkg) (fo : Option Addr) (fc : Nat) (w : World) (hs : VslAt w s a) (h0 : P.shp s = 0)
    (h : (P.btw b.kind 1 2 && P.btw b.state 1 3) = false ∨ (P.btw b.id 1 999999 && P.btw b.guests 1 4) = false ∨ (P.chk b.frm b.to s.legs != 0) = true) :
    Calls Try.prog 9 #[V.vsl s a, V.bk b fo fc] w fun e w' => e = .returned (.int .i64 (P.bkE s b)) ∧ Below w.heap.size w w' := by
  have hbt := two_below w s a b fo fc
  cases hk : P.btw b.kind 1 2
  · have HE : Aside (P.bkE s b = 7) := bkE_kind (by rw [hk]; rfl)
    go_enter Try.func9, Try.ntmps9
    go_wp2_with (go_at_call 26; refine (between_any _ _ _ _).mono ?_; rintro e w1 ⟨rfl, rfl⟩; first | rw [hk])
    go_ret
    exact ⟨ret_int HE.out.symm, hbt⟩
  cases hst : P.btw b.state 1 3
  · have HE : Aside (P.bkE s b = 7) := bkE_kind (by rw [hk, hst]; rfl)
    go_enter Try.func9, Try.ntmps9
    go_wp2_with (go_at_call 26; refine (between_any _ _ _ _).mono ?_; rintro e w1 ⟨rfl, rfl⟩; first | rw [hk] | rw [hst])
    go_ret
    exact ⟨ret_int HE.out.symm, hbt⟩
  have H1 : Aside ((P.btw b.kind 1 2 && P.btw b.state 1 3) = true) := by show _ = _; rw [hk, hst]; rfl
  cases hid : P.btw b.id 1 999999
  · have HE : Aside (P.bkE s b = 3) := bkE_range H1.out (by rw [hid]; rfl)
    go_enter Try.func9, Try.ntmps9
    go_wp2_with (go_at_call 26; refine (between_any _ _ _ _).mono ?_; rintro e w1 ⟨rfl, rfl⟩; first | rw [hk] | rw [hst] | rw [hid])
    go_ret
    exact ⟨ret_int HE.out.symm, hbt⟩
  cases hg : P.btw b.guests 1 4
  · have HE : Aside (P.bkE s b = 3) := bkE_range H1.out (by rw [hid, hg]; rfl)
    go_enter Try.func9, Try.ntmps9
    go_wp2_with (go_at_call 26; refine (between_any _ _ _ _).mono ?_; rintro e w1 ⟨rfl, rfl⟩; first | rw [hk] | rw [hst] | rw [hid] | rw [hg])
    go_ret
    exact ⟨ret_int HE.out.symm, hbt⟩
  have H2 : Aside ((P.btw b.id 1 999999 && P.btw b.guests 1 4) = true) := by show _ = _; rw [hid, hg]; rfl
  have hz : (P.chk b.frm b.to s.legs != 0) = true := by
    rcases h with h | h | h
    · rw [hk, hst] at h; cases h
    · rw [hid, hg] at h; cases h
    · exact h
  clear h
  have HE : Aside (P.bkE s b = P.chk b.frm b.to s.legs) := bkE_span H1.out H2.out hz
  go_enter Try.func9, Try.ntmps9
  go_wp2_with (first
    | (go_at_call 26; refine (between_any _ _ _ _).mono ?_; rintro e w1 ⟨rfl, rfl⟩; first | rw [hk] | rw [hst] | rw [hid] | rw [hg])
    | (go_at_call 29; refine (Sp.checkSpan_any _ _ _ _).mono ?_; rintro e w1 ⟨rfl, hb1⟩))
  go_ret
  exact ⟨ret_int HE.out.symm, bvia hbt hb1⟩

/-- What is asked behind the kind. -/
def P.tailE (b : Bkg) : Int := if P.btw b.til 0 9999 = true then (if b.til ≠ 0 ∧ b.state ≠ 1 then 1 else Fo.P.folE b.fol) else 3
theorem bkE_tail {s : Vsl} {b : Bkg} (h : (P.btw b.kind 1 2 && P.btw b.state 1 3) = true) (h1 : (P.btw b.id 1 999999 && P.btw b.guests 1 4) = true) (h2 : (P.chk b.frm b.to s.legs != 0) = false) (h3 : P.kindE s b = 0) : P.bkE s b = P.tailE b := by
  rw [P.bkE, if_pos h, if_pos h1, if_pos (by simpa using h2), if_pos h3]; rfl
theorem tail_3 {b : Bkg} (h : P.btw b.til 0 9999 = false) : P.tailE b = 3 := by rw [P.tailE, if_neg (by simp [h])]
theorem tail_1 {b : Bkg} (h : P.btw b.til 0 9999 = true) (h1 : (b.til != 0) = true) (h2 : (b.state != 1) = true) : P.tailE b = 1 := by rw [P.tailE, if_pos h, if_pos (by simpa using And.intro h1 h2)]
theorem tail_f {b : Bkg} (h : P.btw b.til 0 9999 = true) (h1 : (b.til != 0) = true) (h2 : (b.state != 1) = false) : P.tailE b = Fo.P.folE b.fol := by rw [P.tailE, if_pos h, if_neg (by simp at h2; simp [h2])]
theorem tail_0 {b : Bkg} (h : P.btw b.til 0 9999 = true) (h1 : (b.til != 0) = false) : P.tailE b = Fo.P.folE b.fol := by rw [P.tailE, if_pos h, if_neg (by simp at h1; simp [h1])]

set_option maxHeartbeats 8000000 in
theorem refBk_named (s : Vsl) (a : VslA) (b : Bkg) (fo : Option Addr) (fc : Nat) (w : World) (hs : VslAt w s a) (hf : Fo.EntsAt w fo fc b.fol) (h0 : P.shp s = 0)
    (h1 : (P.btw b.kind 1 2 && P.btw b.state 1 3) = true) (h2 : (P.btw b.id 1 999999 && P.btw b.guests 1 4) = true) (hz : (P.chk b.frm b.to s.legs != 0) = false) (hkd : (b.kind == 1) = true) :
    Calls Try.prog 9 #[V.vsl s a, V.bk b fo fc] w fun e w' => e = .returned (.int .i64 (P.bkE s b)) ∧ Below w.heap.size w w' := by
  obtain ⟨_, _, _, _, _, _, _, hbs⟩ := shp_size h0
  have hbt := two_below w s a b fo fc
  have hbx := two_b w s a b fo fc
  have hvx := two_v w s a b fo fc
  have H1 : Aside ((P.btw b.kind 1 2 && P.btw b.state 1 3) = true) := h1
  have H2 : Aside ((P.btw b.id 1 999999 && P.btw b.guests 1 4) = true) := h2
  obtain ⟨hk, hst⟩ := Bool.and_eq_true_iff.1 h1
  obtain ⟨hid, hg⟩ := Bool.and_eq_true_iff.1 h2
  have HK : Aside (P.kindE s b = P.namedE s b) := kindE_1 hkd
  clear h1 h2
  by_cases hc0 : b.cabin < 0
  · have HE : Aside (P.bkE s b = 3) := by
      have e : P.kindE s b = 3 := HK.out.trans (namedE_low (cabB_low hc0))
      show _ = _; rw [bkE_kindE H1.out H2.out hz (by rw [e]; rfl), e]
    go_enter Try.func9, Try.ntmps9
    go_wp2_with (first
      | (go_at_call 26; refine (between_any _ _ _ _).mono ?_; rintro e w1 ⟨rfl, rfl⟩; first | rw [hk] | rw [hst] | rw [hid] | rw [hg])
      | (go_at_call 29; refine (Sp.checkSpan_any _ _ _ _).mono ?_; rintro e w1 ⟨rfl, hb1⟩; obtain ⟨x0, x1, x2, x3, x4, x5, x6, x7, x8, x9, x10⟩ := hbx.below hb1; obtain ⟨v0, v1, v2, v3⟩ := hvx.below hb1))
    go_ret
    exact ⟨ret_int HE.out.symm, bvia hbt hb1⟩
  by_cases hc1 : b.cabin < s.bs.length
  rotate_left
  · have hc2 : (s.bs.length : Int) ≤ b.cabin := by omega
    have HE : Aside (P.bkE s b = 3) := by
      have e : P.kindE s b = 3 := HK.out.trans (namedE_low (cabB_high hc2))
      show _ = _; rw [bkE_kindE H1.out H2.out hz (by rw [e]; rfl), e]
    go_enter Try.func9, Try.ntmps9
    go_wp2_with (first
      | (go_at_call 26; refine (between_any _ _ _ _).mono ?_; rintro e w1 ⟨rfl, rfl⟩; first | rw [hk] | rw [hst] | rw [hid] | rw [hg])
      | (go_at_call 29; refine (Sp.checkSpan_any _ _ _ _).mono ?_; rintro e w1 ⟨rfl, hb1⟩; obtain ⟨x0, x1, x2, x3, x4, x5, x6, x7, x8, x9, x10⟩ := hbx.below hb1; obtain ⟨v0, v1, v2, v3⟩ := hvx.below hb1))
    go_ret
    exact ⟨ret_int HE.out.symm, bvia hbt hb1⟩
  have hc := cabB_in hc0 hc1
  cases h6 : (b.cat == 0)
  · have h6' : (b.cat != 0) = true := by simpa using h6
    have HE : Aside (P.bkE s b = 1) := by
      have e : P.kindE s b = 1 := HK.out.trans (namedE_cat hc h6)
      show _ = _; rw [bkE_kindE H1.out H2.out hz (by rw [e]; rfl), e]
    clear hc
    go_enter Try.func9, Try.ntmps9
    go_wp2_with (first
      | (go_at_call 26; refine (between_any _ _ _ _).mono ?_; rintro e w1 ⟨rfl, rfl⟩; first | rw [hk] | rw [hst] | rw [hid] | rw [hg])
      | (go_at_call 29; refine (Sp.checkSpan_any _ _ _ _).mono ?_; rintro e w1 ⟨rfl, hb1⟩; obtain ⟨x0, x1, x2, x3, x4, x5, x6, x7, x8, x9, x10⟩ := hbx.below hb1; obtain ⟨v0, v1, v2, v3⟩ := hvx.below hb1))
    go_ret
    exact ⟨ret_int HE.out.symm, bvia hbt hb1⟩
  have h6' : (b.cat != 0) = false := by simpa using h6
  have HN : Aside (P.kindE s b = if P.suits (P.cabAt s b.cabin) b = true then 0 else 4) := HK.out.trans (namedE_fit hc h6)
  have HC : Aside (P.cabB s b.cabin = true) := hc
  clear hc h6
  go_enter Try.func9, Try.ntmps9
  go_wp2_with (first
    | (go_at_call 26; refine (between_any _ _ _ _).mono ?_; rintro e w1 ⟨rfl, rfl⟩; first | rw [hk] | rw [hst] | rw [hid] | rw [hg])
    | (go_at_call 29; refine (Sp.checkSpan_any _ _ _ _).mono ?_; rintro e w1 ⟨rfl, hb1⟩; obtain ⟨x0, x1, x2, x3, x4, x5, x6, x7, x8, x9, x10⟩ := hbx.below hb1; obtain ⟨v0, v1, v2, v3⟩ := hvx.below hb1))
  have hB1 : Below w.heap.size w w1 := bvia hbt hb1
  have HX : Aside (BBox w1 (w.heap.size + 1) b fo fc) := hbx.below hb1
  obtain ⟨k, bb, off, c, ek, hkk, ec, _, ebao, q0, q1, q2, q3⟩ := cab_get hs hB1 HC.out
  rw [ec] at HN
  have hk1 : (k : Int) < s.bs.length := by omega
  have hk2 : (0 : Int) ≤ k := by omega
  rw [ebao] at v3
  have EK : Aside (b.cabin = k) := ek
  rw [ek] at x5
  have r0 := cell_regrown x0
  have r1 := cell_regrown x1
  have r2 := cell_regrown x2
  have r3 := cell_regrown x3
  have r4 := cell_regrown x4
  have r5 := cell_regrown x5
  have r6 := cell_regrown x6
  have r7 := cell_regrown x7
  have r8 := cell_regrown x8
  have r9 := cell_regrown x9
  have r10 := cell_regrown x10
  have t0 := cell_regrown v0
  have t1 := cell_regrown v1
  have t2 := cell_regrown v2
  have t3 := cell_regrown v3
  have u0 := cell_regrown q0
  have u1 := cell_regrown q1
  have u2 := cell_regrown q2
  have u3 := cell_regrown q3
  clear hc0 hc1 ek x0 x1 x2 x3 x4 x5 x6 x7 x8 x9 x10 v0 v1 v2 v3 q0 q1 q2 q3 hbx hvx hbt hb1
  refine wp_region_quiet_below (by kernel_rfl) (by kernel_rfl) (Qt.out ?_)
  repeat (refine Qt.step (fun K hK => ?_); go_simp; first | (refine hK _ ?_; clear hK K) | (apply Exists.intro; refine ⟨fun _ => ?_, hK _ ?_⟩; (go_at_call 30; exact Calls.regrown_of (v := .bool (P.suits c b)) ((by rw [← EK.out]; exact doesFit_any c b fo fc _))); clear hK K))
  refine Qt.fin ?_
  intro w2 hw2
  obtain ⟨⟨dq, osq⟩, hw2⟩ := hw2
  have hb2 := below_regrown w1 dq osq
  rw [← hw2] at hb2
  have hB2 := bvia hB1 hb2
  clear hw2 r0 r1 r2 r3 r4 r5 r6 r7 r8 r9 r10 t0 t1 t2 t3 u0 u1 u2 u3
  obtain ⟨x0, x1, x2, x3, x4, x5, x6, x7, x8, x9, x10⟩ := HX.out.below hb2
  clear hb2 HX hB1
  cases hsu : P.suits c b
  · have HE : Aside (P.bkE s b = 4) := by
      have e : P.kindE s b = 4 := by rw [HN.out, hsu]; rfl
      show _ = _; rw [bkE_kindE H1.out H2.out hz (by rw [e]; rfl), e]
    go_wp2
    go_ret
    exact ⟨ret_int HE.out.symm, hB2⟩
  have HT : Aside (P.bkE s b = P.tailE b) := bkE_tail H1.out H2.out hz (by rw [HN.out, hsu]; rfl)
  cases ht : P.btw b.til 0 9999
  · have HE : Aside (P.bkE s b = 3) := HT.out.trans (tail_3 ht)
    go_wp2_with (go_at_call 26; refine (between_any _ _ _ _).mono ?_; rintro e w1 ⟨rfl, rfl⟩; rw [ht])
    go_ret
    exact ⟨ret_int HE.out.symm, hB2⟩
  cases hu : (b.til != 0)
  · have HE : Aside (P.bkE s b = Fo.P.folE b.fol) := HT.out.trans (tail_0 ht hu)
    go_wp2_with (first
      | (go_at_call 26; refine (between_any _ _ _ _).mono ?_; rintro e w1 ⟨rfl, rfl⟩; rw [ht])
      | (go_at_call 32; refine (Fo.checkFolio_any fo fc b.fol _ (SlAt.below Fo.REnt.mono hf hB2)).mono ?_; rintro e w3 ⟨rfl, hb3⟩))
    go_ret
    exact ⟨ret_int HE.out.symm, bvia hB2 hb3⟩
  cases hv : (b.state != 1)
  · have HE : Aside (P.bkE s b = Fo.P.folE b.fol) := HT.out.trans (tail_f ht hu hv)
    go_wp2_with (first
      | (go_at_call 26; refine (between_any _ _ _ _).mono ?_; rintro e w1 ⟨rfl, rfl⟩; rw [ht])
      | (go_at_call 32; refine (Fo.checkFolio_any fo fc b.fol _ (SlAt.below Fo.REnt.mono hf hB2)).mono ?_; rintro e w3 ⟨rfl, hb3⟩))
    go_ret
    exact ⟨ret_int HE.out.symm, bvia hB2 hb3⟩
  · have HE : Aside (P.bkE s b = 1) := HT.out.trans (tail_1 ht hu hv)
    go_wp2_with (go_at_call 26; refine (between_any _ _ _ _).mono ?_; rintro e w1 ⟨rfl, rfl⟩; rw [ht])
    go_ret
    exact ⟨ret_int HE.out.symm, hB2⟩

end Go.Proofs.Ytgopdnlmiloipad.Bk
