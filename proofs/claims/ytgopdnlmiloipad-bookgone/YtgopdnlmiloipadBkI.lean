/- The reference: CheckBooking of a promise; CheckBooking; CheckAll. -/
import Derived.Test.YtgopdnlmiloipadBkH
namespace Go.Proofs.Ytgopdnlmiloipad.Bk
open Go.RowKit
set_option linter.unusedSimpArgs false
set_option linter.unusedVariables false

theorem promE_cat {s : Vsl} {b : Bkg} (h : P.btw b.cat 0 ((s.cs.length : Int) - 1) = false) : P.promE s b = 3 := by rw [P.promE, if_neg (by simp [h])]
theorem promE_span {s : Vsl} {b : Bkg} (h : P.btw b.cat 0 ((s.cs.length : Int) - 1) = true) (h1 : ¬ (b.frm = 0 ∧ b.to = s.legs)) : P.promE s b = 4 := by rw [P.promE, if_pos h, if_neg h1]
theorem promE_none {s : Vsl} {b : Bkg} (h : P.btw b.cat 0 ((s.cs.length : Int) - 1) = true) (h1 : b.frm = 0 ∧ b.to = s.legs) (h2 : b.cabin = -1) : P.promE s b = 0 := by rw [P.promE, if_pos h, if_pos h1, if_pos h2]
theorem promE_out {s : Vsl} {b : Bkg} (h : P.btw b.cat 0 ((s.cs.length : Int) - 1) = true) (h1 : b.frm = 0 ∧ b.to = s.legs) (h2 : ¬ b.cabin = -1) (h3 : P.cabB s b.cabin = false) : P.promE s b = 3 := by rw [P.promE, if_pos h, if_pos h1, if_neg h2, if_neg (by simp [h3])]
theorem promE_in {s : Vsl} {b : Bkg} (h : P.btw b.cat 0 ((s.cs.length : Int) - 1) = true) (h1 : b.frm = 0 ∧ b.to = s.legs) (h2 : ¬ b.cabin = -1) (h3 : P.cabB s b.cabin = true) : P.promE s b = if P.elig s b b.cabin = true then 0 else 4 := by rw [P.promE, if_pos h, if_pos h1, if_neg h2, if_pos h3]
theorem btw_cat {n : Nat} {c : Int} (h0 : ¬ c < 0) (h1 : c < n) : P.btw c 0 ((n : Int) - 1) = true := by simp [P.btw]; omega
theorem btw_low {n : Nat} {c : Int} (h0 : c < 0) : P.btw c 0 ((n : Int) - 1) = false := by simp [P.btw]; omega
theorem btw_high {n : Nat} {c : Int} (h0 : (n : Int) ≤ c) : P.btw c 0 ((n : Int) - 1) = false := by simp [P.btw]; omega

set_option maxHeartbeats 8000000 in
theorem refBk_prom (s : Vsl) (a : VslA) (b : Bkg) (fo : Option Addr) (fc : Nat) (w : World) (hs : VslAt w s a) (hf : Fo.EntsAt w fo fc b.fol) (h0 : P.shp s = 0)
    (h1 : (P.btw b.kind 1 2 && P.btw b.state 1 3) = true) (h2 : (P.btw b.id 1 999999 && P.btw b.guests 1 4) = true) (hz : (P.chk b.frm b.to s.legs != 0) = false) (hkd : (b.kind == 1) = false) :
    Calls Try.prog 9 #[V.vsl s a, V.bk b fo fc] w fun e w' => e = .returned (.int .i64 (P.bkE s b)) ∧ Below w.heap.size w w' := by
  obtain ⟨_, _, _, _, _, hcs, _, hbs⟩ := shp_size h0
  have hbt := two_below w s a b fo fc
  have hbx := two_b w s a b fo fc
  have hvx := two_v w s a b fo fc
  have H0 : Aside (P.shp s = 0) := h0
  have H1 : Aside ((P.btw b.kind 1 2 && P.btw b.state 1 3) = true) := h1
  have H2 : Aside ((P.btw b.id 1 999999 && P.btw b.guests 1 4) = true) := h2
  obtain ⟨hk, hst⟩ := Bool.and_eq_true_iff.1 h1
  obtain ⟨hid, hg⟩ := Bool.and_eq_true_iff.1 h2
  have HK : Aside (P.kindE s b = P.promE s b) := kindE_2 hkd
  clear h1 h2 h0
  by_cases hy0 : b.cat < 0
  · have HE : Aside (P.bkE s b = 3) := by
      have e : P.kindE s b = 3 := HK.out.trans (promE_cat (btw_low hy0))
      show _ = _; rw [bkE_kindE H1.out H2.out hz (by rw [e]; rfl), e]
    go_enter Try.func9, Try.ntmps9
    go_wp2_with (first
      | (go_at_call 26; refine (between_any _ _ _ _).mono ?_; rintro e w1 ⟨rfl, rfl⟩; first | rw [hk] | rw [hst] | rw [hid] | rw [hg])
      | (go_at_call 29; refine (Sp.checkSpan_any _ _ _ _).mono ?_; rintro e w1 ⟨rfl, hb1⟩; obtain ⟨x0, x1, x2, x3, x4, x5, x6, x7, x8, x9, x10⟩ := hbx.below hb1; obtain ⟨v0, v1, v2, v3⟩ := hvx.below hb1))
    go_ret
    exact ⟨ret_int HE.out.symm, bvia hbt hb1⟩
  by_cases hy1 : b.cat < s.cs.length
  rotate_left
  · have hy2 : (s.cs.length : Int) ≤ b.cat := by omega
    have HE : Aside (P.bkE s b = 3) := by
      have e : P.kindE s b = 3 := HK.out.trans (promE_cat (btw_high hy2))
      show _ = _; rw [bkE_kindE H1.out H2.out hz (by rw [e]; rfl), e]
    go_enter Try.func9, Try.ntmps9
    go_wp2_with (first
      | (go_at_call 26; refine (between_any _ _ _ _).mono ?_; rintro e w1 ⟨rfl, rfl⟩; first | rw [hk] | rw [hst] | rw [hid] | rw [hg])
      | (go_at_call 29; refine (Sp.checkSpan_any _ _ _ _).mono ?_; rintro e w1 ⟨rfl, hb1⟩; obtain ⟨x0, x1, x2, x3, x4, x5, x6, x7, x8, x9, x10⟩ := hbx.below hb1; obtain ⟨v0, v1, v2, v3⟩ := hvx.below hb1))
    go_ret
    exact ⟨ret_int HE.out.symm, bvia hbt hb1⟩
  have HY : Aside (P.btw b.cat 0 ((s.cs.length : Int) - 1) = true) := btw_cat hy0 hy1
  cases hf0 : (b.frm != 0)
  rotate_left
  · have HE : Aside (P.bkE s b = 4) := by
      have e : P.kindE s b = 4 := HK.out.trans (promE_span HY.out (by simp at hf0; simp [hf0]))
      show _ = _; rw [bkE_kindE H1.out H2.out hz (by rw [e]; rfl), e]
    go_enter Try.func9, Try.ntmps9
    go_wp2_with (first
      | (go_at_call 26; refine (between_any _ _ _ _).mono ?_; rintro e w1 ⟨rfl, rfl⟩; first | rw [hk] | rw [hst] | rw [hid] | rw [hg])
      | (go_at_call 29; refine (Sp.checkSpan_any _ _ _ _).mono ?_; rintro e w1 ⟨rfl, hb1⟩; obtain ⟨x0, x1, x2, x3, x4, x5, x6, x7, x8, x9, x10⟩ := hbx.below hb1; obtain ⟨v0, v1, v2, v3⟩ := hvx.below hb1))
    go_ret
    exact ⟨ret_int HE.out.symm, bvia hbt hb1⟩
  cases hf1 : (b.to != s.legs)
  rotate_left
  · have HE : Aside (P.bkE s b = 4) := by
      have e : P.kindE s b = 4 := HK.out.trans (promE_span HY.out (by simp at hf1; simp [hf1]))
      show _ = _; rw [bkE_kindE H1.out H2.out hz (by rw [e]; rfl), e]
    go_enter Try.func9, Try.ntmps9
    go_wp2_with (first
      | (go_at_call 26; refine (between_any _ _ _ _).mono ?_; rintro e w1 ⟨rfl, rfl⟩; first | rw [hk] | rw [hst] | rw [hid] | rw [hg])
      | (go_at_call 29; refine (Sp.checkSpan_any _ _ _ _).mono ?_; rintro e w1 ⟨rfl, hb1⟩; obtain ⟨x0, x1, x2, x3, x4, x5, x6, x7, x8, x9, x10⟩ := hbx.below hb1; obtain ⟨v0, v1, v2, v3⟩ := hvx.below hb1))
    go_ret
    exact ⟨ret_int HE.out.symm, bvia hbt hb1⟩
  have HF : Aside (b.frm = 0 ∧ b.to = s.legs) := by show _ ∧ _; simpa using And.intro hf0 hf1
  by_cases hc0 : b.cabin < -1
  · have HE : Aside (P.bkE s b = 3) := by
      have e : P.kindE s b = 3 := HK.out.trans (promE_out HY.out HF.out (by omega) (cabB_low (by omega)))
      show _ = _; rw [bkE_kindE H1.out H2.out hz (by rw [e]; rfl), e]
    go_enter Try.func9, Try.ntmps9
    go_wp2_with (first
      | (go_at_call 26; refine (between_any _ _ _ _).mono ?_; rintro e w1 ⟨rfl, rfl⟩; first | rw [hk] | rw [hst] | rw [hid] | rw [hg])
      | (go_at_call 29; refine (Sp.checkSpan_any _ _ _ _).mono ?_; rintro e w1 ⟨rfl, hb1⟩; obtain ⟨x0, x1, x2, x3, x4, x5, x6, x7, x8, x9, x10⟩ := hbx.below hb1; obtain ⟨v0, v1, v2, v3⟩ := hvx.below hb1))
    go_ret
    exact ⟨ret_int HE.out.symm, bvia hbt hb1⟩
  by_cases hc1 : b.cabin < s.bs.length
  rotate_left
  · have hc2 : (s.bs.length : Int) ≤ b.cabin := by omega
    have HE : Aside (P.bkE s b = 3) := by
      have e : P.kindE s b = 3 := HK.out.trans (promE_out HY.out HF.out (by omega) (cabB_high hc2))
      show _ = _; rw [bkE_kindE H1.out H2.out hz (by rw [e]; rfl), e]
    go_enter Try.func9, Try.ntmps9
    go_wp2_with (first
      | (go_at_call 26; refine (between_any _ _ _ _).mono ?_; rintro e w1 ⟨rfl, rfl⟩; first | rw [hk] | rw [hst] | rw [hid] | rw [hg])
      | (go_at_call 29; refine (Sp.checkSpan_any _ _ _ _).mono ?_; rintro e w1 ⟨rfl, hb1⟩; obtain ⟨x0, x1, x2, x3, x4, x5, x6, x7, x8, x9, x10⟩ := hbx.below hb1; obtain ⟨v0, v1, v2, v3⟩ := hvx.below hb1))
    go_ret
    exact ⟨ret_int HE.out.symm, bvia hbt hb1⟩
  by_cases hc3 : 0 ≤ b.cabin
  rotate_left
  · have HT : Aside (P.bkE s b = P.tailE b) := bkE_tail H1.out H2.out hz (HK.out.trans (promE_none HY.out HF.out (by omega)))
    have hc4 : b.cabin < 0 := by omega
    clear hc3
    have BB0 := hbt
    go_enter Try.func9, Try.ntmps9
    go_wp2_with (go_at_call 26; refine (between_any _ _ _ _).mono ?_; rintro e wb ⟨rfl, rfl⟩; first | rw [hk] | rw [hst] | rw [hid] | rw [hg])
    refine (Sp.checkSpan_any _ _ _ _).mono ?_
    rintro e w1 ⟨rfl, hb1⟩
    obtain ⟨x0, x1, x2, x3, x4, x5, x6, x7, x8, x9, x10⟩ := hbx.below hb1
    obtain ⟨v0, v1, v2, v3⟩ := hvx.below hb1
    have hB1 := bvia hbt hb1
    clear hbx hvx hbt hb1
    cases ht : P.btw b.til 0 9999
    · have HE : Aside (P.bkE s b = 3) := HT.out.trans (tail_3 ht)
      go_wp2_with (go_at_call 26; refine (between_any _ _ _ _).mono ?_; rintro e wb ⟨rfl, rfl⟩; rw [ht])
      go_ret
      exact ⟨ret_int HE.out.symm, hB1⟩
    cases hu : (b.til != 0)
    · have HE : Aside (P.bkE s b = Fo.P.folE b.fol) := HT.out.trans (tail_0 ht hu)
      go_wp2_with (first
        | (go_at_call 26; refine (between_any _ _ _ _).mono ?_; rintro e wb ⟨rfl, rfl⟩; rw [ht])
        | (go_at_call 32; refine (Fo.checkFolio_any fo fc b.fol _ (SlAt.below Fo.REnt.mono hf hB1)).mono ?_; rintro e w3 ⟨rfl, hb3⟩))
      go_ret
      exact ⟨ret_int HE.out.symm, bvia hB1 hb3⟩
    cases hv : (b.state != 1)
    · have HE : Aside (P.bkE s b = Fo.P.folE b.fol) := HT.out.trans (tail_f ht hu hv)
      go_wp2_with (first
        | (go_at_call 26; refine (between_any _ _ _ _).mono ?_; rintro e wb ⟨rfl, rfl⟩; rw [ht])
        | (go_at_call 32; refine (Fo.checkFolio_any fo fc b.fol _ (SlAt.below Fo.REnt.mono hf hB1)).mono ?_; rintro e w3 ⟨rfl, hb3⟩))
      go_ret
      exact ⟨ret_int HE.out.symm, bvia hB1 hb3⟩
    · have HE : Aside (P.bkE s b = 1) := HT.out.trans (tail_1 ht hu hv)
      go_wp2_with (go_at_call 26; refine (between_any _ _ _ _).mono ?_; rintro e wb ⟨rfl, rfl⟩; rw [ht])
      go_ret
      exact ⟨ret_int HE.out.symm, hB1⟩
  have HC : Aside (P.cabB s b.cabin = true) := cabB_in (by omega) hc1
  have HN : Aside (P.kindE s b = if P.elig s b b.cabin = true then 0 else 4) := HK.out.trans (promE_in HY.out HF.out (by omega) HC.out)
  have HYY : Aside (0 ≤ b.cat ∧ b.cat < s.cs.length) := by show _ ∧ _; omega
  go_enter Try.func9, Try.ntmps9
  go_wp2_with (go_at_call 26; refine (between_any _ _ _ _).mono ?_; rintro e wb ⟨rfl, rfl⟩; first | rw [hk] | rw [hst] | rw [hid] | rw [hg])
  refine (Sp.checkSpan_any _ _ _ _).mono ?_
  rintro e w1 ⟨rfl, hb1⟩
  have HX : Aside (BBox w1 (w.heap.size + 1) b fo fc) := hbx.below hb1
  obtain ⟨x0, x1, x2, x3, x4, x5, x6, x7, x8, x9, x10⟩ := hbx.below hb1
  obtain ⟨v0, v1, v2, v3⟩ := hvx.below hb1
  have hB1 := bvia hbt hb1
  clear hbx hvx hbt hb1
  go_wp2_with fail
  refine (isEligible_any s a b fo fc b.cabin _ (hs.below hB1) H0.out HC.out HYY.out).mono ?_
  rintro e w2 ⟨rfl, hb2⟩
  have hB2 := bvia hB1 hb2
  clear x0 x1 x2 x3 x4 x5 x6 x7 x8 x9 x10 v0 v1 v2 v3
  obtain ⟨x0, x1, x2, x3, x4, x5, x6, x7, x8, x9, x10⟩ := HX.out.below hb2
  clear hb2 HX hB1
  cases hsu : P.elig s b b.cabin
  · have HE : Aside (P.bkE s b = 4) := by
      have e : P.kindE s b = 4 := by rw [HN.out, hsu]; rfl
      show _ = _; rw [bkE_kindE H1.out H2.out hz (by rw [e]; rfl), e]
    go_wp2
    go_ret
    exact ⟨ret_int HE.out.symm, hB2⟩
  have HT : Aside (P.bkE s b = P.tailE b) := bkE_tail H1.out H2.out hz (by rw [HN.out, hsu]; rfl)
  cases ht : P.btw b.til 0 9999
  · have HE : Aside (P.bkE s b = 3) := HT.out.trans (tail_3 ht)
    go_wp2_with (go_at_call 26; refine (between_any _ _ _ _).mono ?_; rintro e wb ⟨rfl, rfl⟩; rw [ht])
    go_ret
    exact ⟨ret_int HE.out.symm, hB2⟩
  cases hu : (b.til != 0)
  · have HE : Aside (P.bkE s b = Fo.P.folE b.fol) := HT.out.trans (tail_0 ht hu)
    go_wp2_with (first
      | (go_at_call 26; refine (between_any _ _ _ _).mono ?_; rintro e wb ⟨rfl, rfl⟩; rw [ht])
      | (go_at_call 32; refine (Fo.checkFolio_any fo fc b.fol _ (SlAt.below Fo.REnt.mono hf hB2)).mono ?_; rintro e w3 ⟨rfl, hb3⟩))
    go_ret
    exact ⟨ret_int HE.out.symm, bvia hB2 hb3⟩
  cases hv : (b.state != 1)
  · have HE : Aside (P.bkE s b = Fo.P.folE b.fol) := HT.out.trans (tail_f ht hu hv)
    go_wp2_with (first
      | (go_at_call 26; refine (between_any _ _ _ _).mono ?_; rintro e wb ⟨rfl, rfl⟩; rw [ht])
      | (go_at_call 32; refine (Fo.checkFolio_any fo fc b.fol _ (SlAt.below Fo.REnt.mono hf hB2)).mono ?_; rintro e w3 ⟨rfl, hb3⟩))
    go_ret
    exact ⟨ret_int HE.out.symm, bvia hB2 hb3⟩
  · have HE : Aside (P.bkE s b = 1) := HT.out.trans (tail_1 ht hu hv)
    go_wp2_with (go_at_call 26; refine (between_any _ _ _ _).mono ?_; rintro e wb ⟨rfl, rfl⟩; rw [ht])
    go_ret
    exact ⟨ret_int HE.out.symm, hB2⟩

theorem refBk_any (s : Vsl) (a : VslA) (b : Bkg) (fo : Option Addr) (fc : Nat) (w : World) (hs : VslAt w s a) (hf : Fo.EntsAt w fo fc b.fol) (h0 : P.shp s = 0) :
    Calls Try.prog 9 #[V.vsl s a, V.bk b fo fc] w fun e w' => e = .returned (.int .i64 (P.bkE s b)) ∧ Below w.heap.size w w' := by
  cases h1 : (P.btw b.kind 1 2 && P.btw b.state 1 3)
  · exact refBk_early s a b fo fc w hs h0 (.inl h1)
  cases h2 : (P.btw b.id 1 999999 && P.btw b.guests 1 4)
  · exact refBk_early s a b fo fc w hs h0 (.inr (.inl h2))
  cases hz : (P.chk b.frm b.to s.legs != 0)
  · cases hk : (b.kind == 1)
    · exact refBk_prom s a b fo fc w hs hf h0 h1 h2 hz hk
    · exact refBk_named s a b fo fc w hs hf h0 h1 h2 hz hk
  · exact refBk_early s a b fo fc w hs h0 (.inr (.inr hz))

end Go.Proofs.Ytgopdnlmiloipad.Bk
