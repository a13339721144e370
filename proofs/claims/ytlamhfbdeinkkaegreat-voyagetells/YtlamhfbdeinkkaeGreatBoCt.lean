import Derived.Test.YtlamhfbdeinkkaeGreatBoBt
set_option maxRecDepth 10000
/- The reference: CheckBooking of a promise; CheckBooking; CheckAll. -/
namespace Go.Proofs.YtlamhfbdeinkkaeGreat.Bk
open Go.RowKit
set_option linter.unusedSimpArgs false
set_option linter.unusedVariables false

theorem promE_cat {s : Vsl} {b : Bkg} (h : P.btw b.cat 0 ((s.cs.length : Int) - 1) = false) : P.promE s b = 3 := by rw [P.promE, if_neg (by simp [h])]
theorem promE_span {s : Vsl} {b : Bkg} (h : P.btw b.cat 0 ((s.cs.length : Int) - 1) = true) (h1 : ¬ (b.frm = 0 ∧ b.to = s.legs)) : P.promE s b = 4 := by rw [P.promE, if_pos h, if_neg h1]
theorem promE_none {s : Vsl} {b : Bkg} (h : P.btw b.cat 0 ((s.cs.length : Int) - 1) = true) (h1 : b.frm = 0 ∧ b.to = s.legs) (h2 : b.cabin = -1) : P.promE s b = 0 := by rw [P.promE, if_pos h, if_pos h1, if_pos h2]
theorem promE_out {s : Vsl} {b : Bkg} (h : P.btw b.cat 0 ((s.cs.length : Int) - 1) = true) (h1 : b.frm = 0 ∧ b.to = s.legs) (h2 : ¬ b.cabin = -1) (h3 : P.cabB s b.cabin = false) : P.promE s b = 3 := by rw [P.promE, if_pos h, if_pos h1, if_neg h2, if_neg (by simp [h3])]
theorem promE_in {s : Vsl} {b : Bkg} (h : P.btw b.cat 0 ((s.cs.length : Int) - 1) = true) (h1 : b.frm = 0 ∧ b.to = s.legs) (h2 : ¬ b.cabin = -1) (h3 : P.cabB s b.cabin = true) : P.promE s b = if P.elig s b b.cabin = true then 0 else 4 := by rw [P.promE, if_pos h, if_pos h1, if_neg h2, if_pos h3]
theorem btw_cat {n : Nat} {c : Int} (h0 : ¬ c < 0) (h1 : c < n) : P.btw c 0 ((n : Int) - 1) = true := by simp [P.btw]; omega
theorem btw_low {n : Nat} {c : Int} (h0 : c < 0) : P.btw c 0 ((n : Int) - 1) = false := by simp [P.btw]; omega
theorem btw_high {n : Nat} {c : Int} (h0 : (n : Int) ≤ c) : P.btw c 0 ((n : Int) - 1) = false := by simp [P.btw]; omega

set_option maxHeartbeats 8000000 in
theorem refBk_prom (s : Vsl) (a : VslA) (b : Bkg) (fo : Option Addr) (fc : Nat) (w : World) (hs : VslAt w s a) (hf : Fo.EntsAt w fo fc b.fol) (h0 : P.shp s = 0)
    (h1 : (P.btw b.kind 1 2 && P.btw b.state 1 3) = true) (h2 : (P.btw b.id 1 999999 && P.btw b.guests 1 4) = true) (hz : (P.chk b.frm b.to s.legs != 0) = false) (hkd : (b.kind == 1) = false) :
    Calls Tryz.prog 75 #[V.vsl s a, V.bk b fo fc] w fun e w' => e = .returned (.int .i64 (P.bkE s b)) ∧ Below w.heap.size w w' := by
  obtain ⟨_, _, _, _, _, hcs, _, hbs⟩ := shp_size h0
  have hbt := two_below w s a b fo fc
  have hbx := two_b w s a b fo fc
  have hvx := two_v w s a b fo fc
  have H0 : Aside (P.shp s = 0) := h0
  have H1 : Aside ((P.btw b.kind 1 2 && P.btw b.state 1 3) = true) := h1
  have H2 : Aside ((P.btw b.id 1 999999 && P.btw b.guests 1 4) = true) := h2
  obtain ⟨hk, hst⟩ := Bool.and_eq_true_iff.1 h1
  obtain ⟨hid, hg⟩ := Bool.and_eq_true_iff.1 h2
  have HK : Aside (P.kindE s b = P.promE s b) := kindE_2 hkd
  clear h1 h2 h0
  by_cases hy0 : b.cat < 0
  · have HE : Aside (P.bkE s b = 3) := by
      have e : P.kindE s b = 3 := HK.out.trans (promE_cat (btw_low hy0))
      show _ = _; rw [bkE_kindE H1.out H2.out hz (by rw [e]; rfl), e]
    go_enter Tryz.func75, Tryz.ntmps75
    go_wp2_with (first
      | (go_at_call 74; refine (between_any _ _ _ _).mono ?_; rintro e w1 ⟨rfl, rfl⟩; first | rw [hk] | rw [hst] | rw [hid] | rw [hg])
      | (go_at_call 127; refine (Sp.checkSpan_any _ _ _ _).mono ?_; rintro e w1 ⟨rfl, hb1⟩; obtain ⟨x0, x1, x2, x3, x4, x5, x6, x7, x8, x9, x10⟩ := hbx.below hb1; obtain ⟨v0, v1, v2, v3⟩ := hvx.below hb1))
    go_ret
    exact ⟨ret_int HE.out.symm, bvia hbt hb1⟩
  by_cases hy1 : b.cat < s.cs.length
  rotate_left
  · have hy2 : (s.cs.length : Int) ≤ b.cat := by omega
    have HE : Aside (P.bkE s b = 3) := by
      have e : P.kindE s b = 3 := HK.out.trans (promE_cat (btw_high hy2))
      show _ = _; rw [bkE_kindE H1.out H2.out hz (by rw [e]; rfl), e]
    go_enter Tryz.func75, Tryz.ntmps75
    go_wp2_with (first
      | (go_at_call 74; refine (between_any _ _ _ _).mono ?_; rintro e w1 ⟨rfl, rfl⟩; first | rw [hk] | rw [hst] | rw [hid] | rw [hg])
      | (go_at_call 127; refine (Sp.checkSpan_any _ _ _ _).mono ?_; rintro e w1 ⟨rfl, hb1⟩; obtain ⟨x0, x1, x2, x3, x4, x5, x6, x7, x8, x9, x10⟩ := hbx.below hb1; obtain ⟨v0, v1, v2, v3⟩ := hvx.below hb1))
    go_ret
    exact ⟨ret_int HE.out.symm, bvia hbt hb1⟩
  have HY : Aside (P.btw b.cat 0 ((s.cs.length : Int) - 1) = true) := btw_cat hy0 hy1
  cases hf0 : (b.frm != 0)
  rotate_left
  · have HE : Aside (P.bkE s b = 4) := by
      have e : P.kindE s b = 4 := HK.out.trans (promE_span HY.out (by simp at hf0; simp [hf0]))
      show _ = _; rw [bkE_kindE H1.out H2.out hz (by rw [e]; rfl), e]
    go_enter Tryz.func75, Tryz.ntmps75
    go_wp2_with (first
      | (go_at_call 74; refine (between_any _ _ _ _).mono ?_; rintro e w1 ⟨rfl, rfl⟩; first | rw [hk] | rw [hst] | rw [hid] | rw [hg])
      | (go_at_call 127; refine (Sp.checkSpan_any _ _ _ _).mono ?_; rintro e w1 ⟨rfl, hb1⟩; obtain ⟨x0, x1, x2, x3, x4, x5, x6, x7, x8, x9, x10⟩ := hbx.below hb1; obtain ⟨v0, v1, v2, v3⟩ := hvx.below hb1))
    go_ret
    exact ⟨ret_int HE.out.symm, bvia hbt hb1⟩
  cases hf1 : (b.to != s.legs)
  rotate_left
  · have HE : Aside (P.bkE s b = 4) := by
      have e : P.kindE s b = 4 := HK.out.trans (promE_span HY.out (by simp at hf1; simp [hf1]))
      show _ = _; rw [bkE_kindE H1.out H2.out hz (by rw [e]; rfl), e]
    go_enter Tryz.func75, Tryz.ntmps75
    go_wp2_with (first
      | (go_at_call 74; refine (between_any _ _ _ _).mono ?_; rintro e w1 ⟨rfl, rfl⟩; first | rw [hk] | rw [hst] | rw [hid] | rw [hg])
      | (go_at_call 127; refine (Sp.checkSpan_any _ _ _ _).mono ?_; rintro e w1 ⟨rfl, hb1⟩; obtain ⟨x0, x1, x2, x3, x4, x5, x6, x7, x8, x9, x10⟩ := hbx.below hb1; obtain ⟨v0, v1, v2, v3⟩ := hvx.below hb1))
    go_ret
    exact ⟨ret_int HE.out.symm, bvia hbt hb1⟩
  have HF : Aside (b.frm = 0 ∧ b.to = s.legs) := by show _ ∧ _; simpa using And.intro hf0 hf1
  by_cases hc0 : b.cabin < -1
  · have HE : Aside (P.bkE s b = 3) := by
      have e : P.kindE s b = 3 := HK.out.trans (promE_out HY.out HF.out (by omega) (cabB_low (by omega)))
      show _ = _; rw [bkE_kindE H1.out H2.out hz (by rw [e]; rfl), e]
    go_enter Tryz.func75, Tryz.ntmps75
    go_wp2_with (first
      | (go_at_call 74; refine (between_any _ _ _ _).mono ?_; rintro e w1 ⟨rfl, rfl⟩; first | rw [hk] | rw [hst] | rw [hid] | rw [hg])
      | (go_at_call 127; refine (Sp.checkSpan_any _ _ _ _).mono ?_; rintro e w1 ⟨rfl, hb1⟩; obtain ⟨x0, x1, x2, x3, x4, x5, x6, x7, x8, x9, x10⟩ := hbx.below hb1; obtain ⟨v0, v1, v2, v3⟩ := hvx.below hb1))
    go_ret
    exact ⟨ret_int HE.out.symm, bvia hbt hb1⟩
  by_cases hc1 : b.cabin < s.bs.length
  rotate_left
  · have hc2 : (s.bs.length : Int) ≤ b.cabin := by omega
    have HE : Aside (P.bkE s b = 3) := by
      have e : P.kindE s b = 3 := HK.out.trans (promE_out HY.out HF.out (by omega) (cabB_high hc2))
      show _ = _; rw [bkE_kindE H1.out H2.out hz (by rw [e]; rfl), e]
    go_enter Tryz.func75, Tryz.ntmps75
    go_wp2_with (first
      | (go_at_call 74; refine (between_any _ _ _ _).mono ?_; rintro e w1 ⟨rfl, rfl⟩; first | rw [hk] | rw [hst] | rw [hid] | rw [hg])
      | (go_at_call 127; refine (Sp.checkSpan_any _ _ _ _).mono ?_; rintro e w1 ⟨rfl, hb1⟩; obtain ⟨x0, x1, x2, x3, x4, x5, x6, x7, x8, x9, x10⟩ := hbx.below hb1; obtain ⟨v0, v1, v2, v3⟩ := hvx.below hb1))
    go_ret
    exact ⟨ret_int HE.out.symm, bvia hbt hb1⟩
  by_cases hc3 : 0 ≤ b.cabin
  rotate_left
  · have HT : Aside (P.bkE s b = P.tailE b) := bkE_tail H1.out H2.out hz (HK.out.trans (promE_none HY.out HF.out (by omega)))
    have hc4 : b.cabin < 0 := by omega
    clear hc3
    have BB0 := hbt
    go_enter Tryz.func75, Tryz.ntmps75
    go_wp2_with (go_at_call 74; refine (between_any _ _ _ _).mono ?_; rintro e wb ⟨rfl, rfl⟩; first | rw [hk] | rw [hst] | rw [hid] | rw [hg])
    refine (Sp.checkSpan_any _ _ _ _).mono ?_
    rintro e w1 ⟨rfl, hb1⟩
    obtain ⟨x0, x1, x2, x3, x4, x5, x6, x7, x8, x9, x10⟩ := hbx.below hb1
    obtain ⟨v0, v1, v2, v3⟩ := hvx.below hb1
    have hB1 := bvia hbt hb1
    clear hbx hvx hbt hb1
    cases ht : P.btw b.til 0 9999
    · have HE : Aside (P.bkE s b = 3) := HT.out.trans (tail_3 ht)
      go_wp2_with (go_at_call 74; refine (between_any _ _ _ _).mono ?_; rintro e wb ⟨rfl, rfl⟩; rw [ht])
      go_ret
      exact ⟨ret_int HE.out.symm, hB1⟩
    cases hu : (b.til != 0)
    · have HE : Aside (P.bkE s b = Fo.P.folE b.fol) := HT.out.trans (tail_0 ht hu)
      go_wp2_with (first
        | (go_at_call 74; refine (between_any _ _ _ _).mono ?_; rintro e wb ⟨rfl, rfl⟩; rw [ht])
        | (go_at_call 80; refine (Fo.checkFolio_any fo fc b.fol _ (SlAt.below Fo.REnt.mono hf hB1)).mono ?_; rintro e w3 ⟨rfl, hb3⟩))
      go_ret
      exact ⟨ret_int HE.out.symm, bvia hB1 hb3⟩
    cases hv : (b.state != 1)
    · have HE : Aside (P.bkE s b = Fo.P.folE b.fol) := HT.out.trans (tail_f ht hu hv)
      go_wp2_with (first
        | (go_at_call 74; refine (between_any _ _ _ _).mono ?_; rintro e wb ⟨rfl, rfl⟩; rw [ht])
        | (go_at_call 80; refine (Fo.checkFolio_any fo fc b.fol _ (SlAt.below Fo.REnt.mono hf hB1)).mono ?_; rintro e w3 ⟨rfl, hb3⟩))
      go_ret
      exact ⟨ret_int HE.out.symm, bvia hB1 hb3⟩
    · have HE : Aside (P.bkE s b = 1) := HT.out.trans (tail_1 ht hu hv)
      go_wp2_with (go_at_call 74; refine (between_any _ _ _ _).mono ?_; rintro e wb ⟨rfl, rfl⟩; rw [ht])
      go_ret
      exact ⟨ret_int HE.out.symm, hB1⟩
  have HC : Aside (P.cabB s b.cabin = true) := cabB_in (by omega) hc1
  have HN : Aside (P.kindE s b = if P.elig s b b.cabin = true then 0 else 4) := HK.out.trans (promE_in HY.out HF.out (by omega) HC.out)
  have HYY : Aside (0 ≤ b.cat ∧ b.cat < s.cs.length) := by show _ ∧ _; omega
  go_enter Tryz.func75, Tryz.ntmps75
  go_wp2_with (go_at_call 74; refine (between_any _ _ _ _).mono ?_; rintro e wb ⟨rfl, rfl⟩; first | rw [hk] | rw [hst] | rw [hid] | rw [hg])
  refine (Sp.checkSpan_any _ _ _ _).mono ?_
  rintro e w1 ⟨rfl, hb1⟩
  have HX : Aside (BBox w1 (w.heap.size + 1) b fo fc) := hbx.below hb1
  obtain ⟨x0, x1, x2, x3, x4, x5, x6, x7, x8, x9, x10⟩ := hbx.below hb1
  obtain ⟨v0, v1, v2, v3⟩ := hvx.below hb1
  have hB1 := bvia hbt hb1
  clear hbx hvx hbt hb1
  go_wp2_with fail
  refine (isEligible_any s a b fo fc b.cabin _ (hs.below hB1) H0.out HC.out HYY.out).mono ?_
  rintro e w2 ⟨rfl, hb2⟩
  have hB2 := bvia hB1 hb2
  clear x0 x1 x2 x3 x4 x5 x6 x7 x8 x9 x10 v0 v1 v2 v3
  obtain ⟨x0, x1, x2, x3, x4, x5, x6, x7, x8, x9, x10⟩ := HX.out.below hb2
  clear hb2 HX hB1
  cases hsu : P.elig s b b.cabin
  · have HE : Aside (P.bkE s b = 4) := by
      have e : P.kindE s b = 4 := by rw [HN.out, hsu]; rfl
      show _ = _; rw [bkE_kindE H1.out H2.out hz (by rw [e]; rfl), e]
    go_wp2
    go_ret
    exact ⟨ret_int HE.out.symm, hB2⟩
  have HT : Aside (P.bkE s b = P.tailE b) := bkE_tail H1.out H2.out hz (by rw [HN.out, hsu]; rfl)
  cases ht : P.btw b.til 0 9999
  · have HE : Aside (P.bkE s b = 3) := HT.out.trans (tail_3 ht)
    go_wp2_with (go_at_call 74; refine (between_any _ _ _ _).mono ?_; rintro e wb ⟨rfl, rfl⟩; rw [ht])
    go_ret
    exact ⟨ret_int HE.out.symm, hB2⟩
  cases hu : (b.til != 0)
  · have HE : Aside (P.bkE s b = Fo.P.folE b.fol) := HT.out.trans (tail_0 ht hu)
    go_wp2_with (first
      | (go_at_call 74; refine (between_any _ _ _ _).mono ?_; rintro e wb ⟨rfl, rfl⟩; rw [ht])
      | (go_at_call 80; refine (Fo.checkFolio_any fo fc b.fol _ (SlAt.below Fo.REnt.mono hf hB2)).mono ?_; rintro e w3 ⟨rfl, hb3⟩))
    go_ret
    exact ⟨ret_int HE.out.symm, bvia hB2 hb3⟩
  cases hv : (b.state != 1)
  · have HE : Aside (P.bkE s b = Fo.P.folE b.fol) := HT.out.trans (tail_f ht hu hv)
    go_wp2_with (first
      | (go_at_call 74; refine (between_any _ _ _ _).mono ?_; rintro e wb ⟨rfl, rfl⟩; rw [ht])
      | (go_at_call 80; refine (Fo.checkFolio_any fo fc b.fol _ (SlAt.below Fo.REnt.mono hf hB2)).mono ?_; rintro e w3 ⟨rfl, hb3⟩))
    go_ret
    exact ⟨ret_int HE.out.symm, bvia hB2 hb3⟩
  · have HE : Aside (P.bkE s b = 1) := HT.out.trans (tail_1 ht hu hv)
    go_wp2_with (go_at_call 74; refine (between_any _ _ _ _).mono ?_; rintro e wb ⟨rfl, rfl⟩; rw [ht])
    go_ret
    exact ⟨ret_int HE.out.symm, hB2⟩

theorem refBk_any (s : Vsl) (a : VslA) (b : Bkg) (fo : Option Addr) (fc : Nat) (w : World) (hs : VslAt w s a) (hf : Fo.EntsAt w fo fc b.fol) (h0 : P.shp s = 0) :
    Calls Tryz.prog 75 #[V.vsl s a, V.bk b fo fc] w fun e w' => e = .returned (.int .i64 (P.bkE s b)) ∧ Below w.heap.size w w' := by
  cases h1 : (P.btw b.kind 1 2 && P.btw b.state 1 3)
  · exact refBk_early s a b fo fc w hs h0 (.inl h1)
  cases h2 : (P.btw b.id 1 999999 && P.btw b.guests 1 4)
  · exact refBk_early s a b fo fc w hs h0 (.inr (.inl h2))
  cases hz : (P.chk b.frm b.to s.legs != 0)
  · cases hk : (b.kind == 1)
    · exact refBk_prom s a b fo fc w hs hf h0 h1 h2 hz hk
    · exact refBk_named s a b fo fc w hs hf h0 h1 h2 hz hk
  · exact refBk_early s a b fo fc w hs h0 (.inr (.inr hz))

end Go.Proofs.YtlamhfbdeinkkaeGreat.Bk

/- The reference: CheckAll. Those bookings that count, gone through by a loop over a function. -/
namespace Go.Proofs.YtlamhfbdeinkkaeGreat.Bk
open Go.RowKit Go.Shelf
set_option linter.unusedSimpArgs false
set_option linter.unusedVariables false
attribute [local go_sem] Oper.semAt_some

section
variable {Ok : BkV → Prop}
theorem bkvs_get {w w' : World} {ao : Option Addr} {cap : Nat} {es : List {x : BkV // Ok x}} (h : BkVsAt w ao cap (es.map (·.1))) (hb : Below w.heap.size w w') (k : Nat) (hk : k < es.length) :
    ∃ b off, ∃ y : {x : BkV // Ok x}, ao = some ⟨b, off, none⟩ ∧ b < w.heap.size ∧ es.drop k = y :: es.drop (k + 1) ∧ BkAt w' b (off + k * 11) y.1.1 y.1.2.1 y.1.2.2 ∧ Fo.EntsAt w' y.1.2.1 y.1.2.2 y.1.1.fol := by
  obtain ⟨b, off, x, h1, h2, h3, h4, h5⟩ := BkVsAt.get h hb k (by simpa using hk)
  have hd : es.drop k = es[k] :: es.drop (k + 1) := List.drop_eq_getElem_cons hk
  have e : x = es[k].1 := by
    rw [← List.map_drop, hd, List.map_cons] at h3
    simp only [List.cons.injEq] at h3
    exact h3.1.symm
  subst e
  exact ⟨b, off, es[k], h1, h2, hd, h4, h5⟩

set_option maxRecDepth 100000 in
set_option maxHeartbeats 4000000 in
/-- The function literal of 'those', for every loop body that keeps what lay below n₀, and the cell that holds which bookings count. -/
theorem those1_in (n : Nat) (hn : 1 ≤ n) (l Bl Bc n₀ : Nat) (ao : Option Addr) (cap : Nat) (es : List {x : BkV // Ok x}) (F : Nat) (cs : Array Value) (p : Bkg → Bool) (J Jx : List {x : BkV // Ok x} → World → Prop) (W w0 : World)
    (hcf : ∀ (args : Array Value) (wx : World), (callFunc F args).run Tryz.prog wx = .ok (.enter F args) wx)
    (hp : Hid (∀ (x : BkV) (wx : World), Below n₀ w0 wx → Calls Tryz.prog F (#[V.bkv x] ++ cs) wx fun e w' => e = .returned (.bool (p x.1)) ∧ Below wx.heap.size wx w'))
    (hJ : AbidesFrom W.heap.size J) (hJx : AbidesFrom W.heap.size Jx)
    (hY : ∀ pre x W1, J pre W1 → pre.length < es.length → YieldAt Fence.wide (n - 1) Tryz.prog l #[V.bkv x.1] W1 fun e W' =>
      (e = .returned (.bool true) ∧ J (pre ++ [x]) W' ∧ Fo.Kept n₀ Bc W1 W') ∨ (e = .returned (.bool false) ∧ Jx (pre ++ [x]) W'))
    (hw0 : w0.heap.size = n₀) (hb0 : Below n₀ w0 W) (hes : BkVsAt w0 ao cap (es.map (·.1)))
    (hBl : W.cell? ⟨Bl, 0, none⟩ = some (.slice ao es.length cap)) (hBc : W.cell? ⟨Bc, 0, none⟩ = some (.func (.func F) #[] cs)) (h0 : J [] W) :
    CallsIn Fence.wide n Tryz.prog 194 #[.func (.yield l) #[] #[], .pointer (some ⟨Bl, 0, none⟩), .pointer (some ⟨Bc, 0, none⟩)] W fun e W' => (∃ v, e = .returned v) ∧
      ((∃ ys, ys = es.filter (fun x => p x.1.1) ∧ J ys W') ∨ (∃ pre, pre <+: es.filter (fun x => p x.1.1) ∧ Jx pre W')) := by
  have hle : es.length ≤ cap := by simpa using hes.le
  have hmx := hes.max
  unfold maxLen at hmx
  refine callsIn_of_wp Tryz.func194 rfl trivial ?_ rfl
  simp only [Tryz.ntmps194, List.size_toArray, List.length_cons, List.length_nil, Nat.reduceAdd, Nat.reduceSub, Array.replicate_succ, Array.replicate_zero, List.push_toArray, List.append_toArray, List.nil_append, List.cons_append]
  gi_wp2
  gi_loopw [8] (fun i wr => ∃ (k : Nat) (pre : List {x : BkV // Ok x}), k ≤ es.length ∧ i = .int .i64 k ∧ pre ++ (es.drop k).filter (fun x => p x.1.1) = es.filter (fun x => p x.1.1) ∧ pre.length ≤ k ∧ J pre wr ∧ Below n₀ w0 wr ∧ wr.cell? ⟨Bc, 0, none⟩ = some (.func (.func F) #[] cs))
    (fun i _ => es.length - (intOf i).toNat)
  case atStart => exact ⟨0, [], Nat.zero_le _, rfl, rfl, by simp, h0, hb0, hBc⟩
  case round =>
    obtain ⟨k, pre, hk, rfl, hP, hpl, hJs, hbw, hc⟩ := hrel
    have HP : Aside (pre ++ (es.drop k).filter (fun x => p x.1.1) = es.filter (fun x => p x.1.1)) := hP
    clear hP
    by_cases hlt : k < es.length
    · obtain ⟨b, off, ⟨⟨x, fo, fc⟩, hok⟩, rfl, hbl, hd, hx, hfx⟩ := bkvs_get hes (w' := wr) (by rw [hw0]; exact hbw) k hlt
      simp only at hx hfx
      have hd' := HP.out
      rw [hd, List.filter_cons] at hd'
      simp only at hd'
      have HP2 : Aside (pre ++ (if p x = true then ⟨(x, fo, fc), hok⟩ :: (es.drop (k + 1)).filter (fun x => p x.1.1) else (es.drop (k + 1)).filter (fun x => p x.1.1)) = es.filter (fun x => p x.1.1)) := hd'
      clear hd hd' HP
      have hBcl : Bc < wr.heap.size := World.block_lt_of_cell? wr _ hc
      have HBs : Aside (n₀ ≤ wr.heap.size) := by have := hbw.size; show n₀ ≤ _; omega
      obtain ⟨x0, x1, x2, x3, x4, x5, x6, x7, x8, x9, x10⟩ := hx
      have hbl' : b < wr.heap.size := World.block_lt_of_cell? wr _ x0
      gi_wp2_with fail
      refine ⟨trivial, (callsIn_wide.2 (hp.out (x, fo, fc) _ (hbw.trans ((show Below wr.heap.size wr _ by go_grown).mono HBs.out)))).mono ?_⟩
      rintro e w1 ⟨rfl, hb1⟩
      have hB1 : Below wr.heap.size wr w1 := bvia (by go_grown) hb1
      have hJ1 := hJ pre wr w1 none hJs (Fo.grown_of_below hB1) (fun r e => by cases e)
      obtain ⟨z0, z1, z2, z3, z4, z5, z6, z7, z8, z9, z10⟩ := (BBox.new wr x fo fc).below hb1
      have hc1 := cellIn hB1 hc
      have hbw1 : Below n₀ w0 w1 := hbw.trans (hB1.mono HBs.out)
      clear hb1 hB1 hJs hbw hc x0 x1 x2 x3 x4 x5 x6 x7 x8 x9 x10
      cases hpx : p x
      · have HP3 : Aside (pre ++ (es.drop (k + 1)).filter (fun x => p x.1.1) = es.filter (fun x => p x.1.1)) := by
          have := HP2.out
          rw [hpx] at this
          show _ = _
          simpa using this
        clear HP2
        gi_wp2
        refine ⟨(fun f e => by cases e), ?_⟩
        gi_wp2
        go_roundw
        case rel => exact ⟨k + 1, pre, by omega, by simp, HP3.out, by omega, hJ1, hbw1, hc1⟩
        case measure => simp [intOf]; omega
      · have HP3 : Aside ((pre ++ [⟨(x, fo, fc), hok⟩]) ++ (es.drop (k + 1)).filter (fun x => p x.1.1) = es.filter (fun x => p x.1.1)) := by
          have := HP2.out
          rw [hpx] at this
          show _ = _
          simpa using this
        clear HP2
        obtain ⟨fn, tmps, assign, body, hy, hR⟩ := hY pre ⟨(x, fo, fc), hok⟩ w1 hJ1 (by omega)
        gi_wp2
        refine hR.mono ?_
        rintro e W3 (⟨rfl, hJ3, hk3⟩ | ⟨rfl, hJx3⟩)
        · gi_wp2
          go_roundw
          case rel => exact ⟨k + 1, pre ++ [⟨(x, fo, fc), hok⟩], by omega, by simp, HP3.out, by simp; omega, hJ3, hbw1.trans hk3.1, hk3.2 _ hc1⟩
          case measure => simp [intOf]; omega
        · gi_wp2
          refine bodyPost_ret (results_none rfl _ _ _) rfl ?_
          exact ⟨⟨_, rfl⟩, .inr ⟨pre ++ [⟨(x, fo, fc), hok⟩], ⟨_, HP3.out⟩, hJx3⟩⟩
    · obtain rfl : k = es.length := by omega
      have hP := HP.out
      rw [List.drop_of_length_le (Nat.le_refl _), List.filter_nil, List.append_nil] at hP
      gi_wp2
      go_end0
      exact ⟨⟨_, rfl⟩, .inl ⟨_, hP, hJs⟩⟩

abbrev V.seq (b c : Nat) : Value := .func (.func 194) #[] #[.pointer (some ⟨b, 0, none⟩), .pointer (some ⟨c, 0, none⟩)]
abbrev W.seq (w : World) (ao : Option Addr) (cap len F : Nat) (cs : Array Value) : World := (w.alloc (.cells #[.slice ao len cap] 30)).alloc (.cells #[.func (.func F) #[] cs] 120)

set_option maxHeartbeats 400000 in
theorem those_any (ao : Option Addr) (cap len F : Nat) (cs : Array Value) (w : World) :
    Calls Tryz.prog 151 #[.slice ao len cap, .func (.func F) #[] cs] w fun e w' => e = .returned (V.seq w.heap.size (w.heap.size + 1)) ∧ w' = W.seq w ao cap len F cs := by
  go_enter Tryz.func151, Tryz.ntmps151
  go_wp2
  go_ret
  exact ⟨rfl, rfl⟩

/-- 'those(l, counts)' hands back a value that gives those that count. -/
theorem those_stops (n : Nat) (hn : 1 ≤ n) (Bl Bc n₀ : Nat) (ao : Option Addr) (cap : Nat) (es : List {x : BkV // Ok x}) (F : Nat) (cs : Array Value) (p : Bkg → Bool) (w w0 : World)
    (hcf : ∀ (args : Array Value) (wx : World), (callFunc F args).run Tryz.prog wx = .ok (.enter F args) wx)
    (hp : Hid (∀ (x : BkV) (wx : World), Below n₀ w0 wx → Calls Tryz.prog F (#[V.bkv x] ++ cs) wx fun e w' => e = .returned (.bool (p x.1)) ∧ Below wx.heap.size wx w'))
    (hw0 : w0.heap.size = n₀) (hb0 : Below n₀ w0 w) (hes : BkVsAt w0 ao cap (es.map (·.1)))
    (hBl : w.cell? ⟨Bl, 0, none⟩ = some (.slice ao es.length cap)) (hBc : w.cell? ⟨Bc, 0, none⟩ = some (.func (.func F) #[] cs)) :
    SeqStopsK Fence.wide n Tryz.prog 194 #[.pointer (some ⟨Bl, 0, none⟩), .pointer (some ⟨Bc, 0, none⟩)] (fun x : {x : BkV // Ok x} => #[V.bkv x.1]) (Fo.Kept n₀ Bc) (fun ys => ys = es.filter (fun x => p x.1.1)) (fun pre => pre <+: es.filter (fun x => p x.1.1)) es.length w :=
  fun l J Jx W hW hJ hJx hY h0 =>
    those1_in n hn l Bl Bc n₀ ao cap es F cs p J Jx W w0 hcf hp hJ hJx hY hw0 (hb0.trans (hW.mono (by have := hb0.size; subst hw0; exact this))) hes (cellIn hW hBl) (cellIn hW hBc) h0
end

end Go.Proofs.YtlamhfbdeinkkaeGreat.Bk

/- The reference: CheckAll, SpansOf. -/
namespace Go.Proofs.YtlamhfbdeinkkaeGreat.Bk
open Go.RowKit
set_option linter.unusedSimpArgs false
set_option linter.unusedVariables false

theorem adds_snoc {n : Int} {acc pre : List (Int × Int)} {x : Int × Int} (h : P.addsE n acc pre = 0) : P.addsE n acc (pre ++ [x]) = Sp.P.addE (P.addsL n acc pre) n x.1 x.2 ∧ P.addsL n acc (pre ++ [x]) = Sp.P.addL (P.addsL n acc pre) n x.1 x.2 := by
  induction pre generalizing acc with
  | nil =>
    simp only [List.nil_append, P.addsE, P.addsL]
    split
    · rename_i he; exact ⟨he.symm, rfl⟩
    · rename_i he; exact ⟨rfl, by rw [Sp.P.addL, if_neg he]⟩
  | cons y r ih =>
    rw [P.addsE] at h
    rw [List.cons_append, P.addsE, P.addsL, P.addsL]
    split at h
    · rename_i he
      rw [if_pos he, if_pos he, if_pos he]
      exact ih h
    · contradiction
theorem adds_pre {n : Int} {acc pre t : List (Int × Int)} (h : ¬ P.addsE n acc pre = 0) : P.addsE n acc (pre ++ t) = P.addsE n acc pre := by
  induction pre generalizing acc with
  | nil => exact absurd rfl h
  | cons y r ih =>
    rw [P.addsE] at h ⊢
    rw [List.cons_append, P.addsE]
    split
    · rename_i he
      rw [if_pos he] at h
      exact ih h
    · rfl
theorem mine_take {cabin : Int} {l : List Bkg} {x : Bkg} {k : Nat} (hk : k < l.length) (hd : l.drop k = x :: l.drop (k + 1)) : P.mine cabin (l.take (k + 1)) = P.mine cabin (l.take k) ++ (if P.hasC cabin x = true then [P.spn x] else []) := by
  have e : l.take (k + 1) = l.take k ++ [x] := by
    have h1 := List.drop_eq_getElem_cons hk
    rw [hd] at h1
    simp only [List.cons.injEq] at h1
    rw [h1.1, List.take_succ_eq_append_getElem hk]
  rw [e, P.mine, P.mine, List.filter_append, List.map_append]
  congr 1
  cases h : P.hasC cabin x <;> simp [List.filter_cons, h]
theorem mem_of_drop {α : Type} {l : List α} {x : α} {k : Nat} (hd : l.drop k = x :: l.drop (k + 1)) : x ∈ l := by
  have : x ∈ l.drop k := by rw [hd]; simp
  exact List.mem_of_mem_drop this
/-- Spans of one's own, said of a block further ahead. -/
theorem own_ahead {w : World} {base base' : Nat} {v : Value} {l : List (Int × Int)} (h : Sp.Own w base v l) (hb : base' ≤ base) : Sp.Own w base' v l := by
  refine ⟨h.1, ?_⟩
  rcases h.2 with h2 | ⟨g, cap, cur, hv, hg, r⟩
  · exact Or.inl h2
  · exact Or.inr ⟨g, cap, cur, hv, Nat.le_trans hb hg, r⟩

abbrev P.addsB (n : Int) (r : List (Int × Int)) : Bool := decide (P.addsE n [] r = 0)

set_option maxHeartbeats 4000000 in
theorem spansOf_any (n : Int) (ao : Option Addr) (cap : Nat) (l : List Bkg) (cabin : Int) (w : World) (hl : BksAt w ao cap l) (hn : P.sails n = true) (hck : ∀ b ∈ l, P.chk b.frm b.to n = 0) :
    Calls Tryz.prog 90 #[.slice ao l.length cap, .int .i64 cabin] w fun e w' => ∃ v', e = .returned (.tuple #[v', .bool (P.addsB n (P.mine cabin l))]) ∧ Sp.Own w' w.heap.size v' (P.addsL n [] (P.mine cabin l)) ∧ Below w.heap.size w w' := by
  have hle := hl.le
  have hmx := hl.max
  unfold maxLen at hmx
  have HCK : Aside (∀ b ∈ l, P.chk b.frm b.to n = 0) := hck
  clear hck
  go_enter Tryz.func90, Tryz.ntmps90
  go_wp2
  go_loopg [6, 7] l.length (fun g o i wr => ∃ (k : Nat), k ≤ l.length ∧ g = l.length - k ∧ i = .int .i64 k ∧ Aside (P.addsE n [] (P.mine cabin (l.take k)) = 0) ∧ Sp.Own wr w.heap.size o (P.addsL n [] (P.mine cabin (l.take k))) ∧ Below w.heap.size w wr)
  case atStart => exact ⟨0, Nat.zero_le _, rfl, rfl, rfl, World.ownsRow_nil _ _ _ _, Below.refl _ _⟩
  case round =>
    obtain ⟨k, hk, rfl, rfl, HA, hown, hB⟩ := hrel
    by_cases hlt : k < l.length
    · obtain ⟨b, off, x, fo, fc, rfl, hbw, hd, hx, hfx⟩ := BksAt.get hl hB k hlt
      have HD : Aside (l.drop k = x :: l.drop (k + 1)) := hd
      have HC : Aside (P.chk x.frm x.to n = 0) := HCK.out x (mem_of_drop hd)
      clear hd hfx
      obtain ⟨x0, x1, x2, x3, x4, x5, x6, x7, x8, x9, x10⟩ := hx
      have hbl : b < wr.heap.size := World.block_lt_of_cell? wr _ x0
      have HM : Aside (P.mine cabin (l.take (k + 1)) = P.mine cabin (l.take k) ++ (if P.hasC cabin x = true then [P.spn x] else [])) := mine_take hlt HD.out
      have skip : P.hasC cabin x = false → P.mine cabin (l.take (k + 1)) = P.mine cabin (l.take k) := fun h => by rw [HM.out, h]; simp
      have SK : Aside (P.hasC cabin x = false → P.mine cabin (l.take (k + 1)) = P.mine cabin (l.take k)) := skip
      clear skip
      cases hst : (x.state == 3)
      rotate_left
      · have e := SK.out (by simp at hst; simp [P.hasC, P.live, hst])
        have E : Aside (P.mine cabin (l.take (k + 1)) = P.mine cabin (l.take k)) := e
        clear e
        go_wp2
        go_roundg (l.length - (k + 1))
        case measure => omega
        case rel => exact ⟨k + 1, by omega, rfl, by go_num, by rw [E.out]; exact HA, by rw [E.out]; exact hown, hB⟩
      cases hca : (x.cabin == cabin)
      · have hca' : (x.cabin != cabin) = true := by simpa using hca
        have e := SK.out (by simp at hca; simp [P.hasC, hca])
        have E : Aside (P.mine cabin (l.take (k + 1)) = P.mine cabin (l.take k)) := e
        clear e
        go_wp2
        go_roundg (l.length - (k + 1))
        case measure => omega
        case rel => exact ⟨k + 1, by omega, rfl, by go_num, by rw [E.out]; exact HA, by rw [E.out]; exact hown, hB⟩
      · have hca' : (x.cabin != cabin) = false := by simpa using hca
        have E : Aside (P.mine cabin (l.take (k + 1)) = P.mine cabin (l.take k) ++ [P.spn x]) := by
          show _ = _
          rw [HM.out, if_pos (by simp at hst hca; simp [P.hasC, P.live, hst, hca])]
        have hcal : Sp.P.calendar (P.addsL n [] (P.mine cabin (l.take k))) n = 0 := adds_cal (nil_cal hn) HA
        have hsn := adds_snoc (x := P.spn x) (show P.addsE n [] (P.mine cabin (l.take k)) = 0 from HA)
        rw [← E.out] at hsn
        generalize hacc : P.addsL n [] (P.mine cabin (l.take k)) = acc at hown hcal hsn
        have HS : Aside (P.addsE n [] (P.mine cabin (l.take (k + 1))) = Sp.P.addE acc n x.frm x.to ∧ P.addsL n [] (P.mine cabin (l.take (k + 1))) = Sp.P.addL acc n x.frm x.to) := hsn
        have HR : Aside (Sp.P.refAddE acc x.frm x.to = Sp.P.addE acc n x.frm x.to ∧ Sp.P.refAddL acc x.frm x.to = Sp.P.addL acc n x.frm x.to) := Sp.refAdd (both_of hcal HC.out)
        have HCAL : Aside (Sp.P.calendar acc n = 0) := hcal
        have HOWN : Aside (Sp.Own wr w.heap.size u6 acc) := hown
        obtain ⟨ao2, cap2, hv, hsp⟩ := Sp.Own.at hown
        subst hv
        clear hown hsn hcal HM SK
        go_wp2_with fail
        refine (Sp.addSpan_any ao2 cap2 acc n x.frm x.to _ hsp HCAL.out HC.out).mono ?_
        rintro e w1 ⟨v1, rfl, hown1, hb1⟩
        rw [HR.out.1]
        rw [HR.out.2, ← HS.out.2] at hown1
        cases hz : (Sp.P.addE acc n x.frm x.to != 0)
        · go_wp2
          go_roundg (l.length - (k + 1))
          case measure => omega
          case rel => exact ⟨k + 1, by omega, rfl, by go_num, HS.out.1.trans (by simpa using hz), own_ahead hown1 hB.size, bvia hB hb1⟩
        · have hne : ¬ P.addsE n [] (P.mine cabin (l.take (k + 1))) = 0 := by rw [HS.out.1]; simpa using hz
          have hall : P.addsE n [] (P.mine cabin l) = P.addsE n [] (P.mine cabin (l.take (k + 1))) := by
            have e : P.mine cabin l = P.mine cabin (l.take (k + 1)) ++ P.mine cabin (l.drop (k + 1)) := by
              conv => lhs; rw [← List.take_append_drop (k + 1) l]
              rw [P.mine, List.filter_append, List.map_append]; rfl
            rw [e, adds_pre hne]
          have HN : Aside (¬ P.addsE n [] (P.mine cabin l) = 0) := by rw [hall]; exact hne
          clear hne hall
          go_wp2
          go_ret2
          exact ⟨.slice none 0 0, by simp [P.addsB, HN.out], by rw [addsL_of HN.out]; exact World.ownsRow_nil _ _ _ _, bvia hB hb1⟩
    · obtain rfl : k = l.length := by omega
      rw [List.take_of_length_le (Nat.le_refl _)] at HA hown
      go_wp2
      go_ret2
      exact ⟨_, by simp [P.addsB, HA.out], hown, hB⟩

end Go.Proofs.YtlamhfbdeinkkaeGreat.Bk
