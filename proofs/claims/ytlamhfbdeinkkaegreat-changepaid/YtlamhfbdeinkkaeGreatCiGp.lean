/- The walk of ChangePaid. -/
import Derived.Test.YtlamhfbdeinkkaeGreatSeHp
import Derived.Test.YtlamhfbdeinkkaeGreatStEp
import Derived.Test.YtlamhfbdeinkkaeGreatSeLp
import Derived.Test.YtlamhfbdeinkkaeGreatCiBp
import Derived.Test.YtlamhfbdeinkkaeGreatChHp
import Derived.Test.YtlamhfbdeinkkaeGreatChQp
import Derived.Test.YtlamhfbdeinkkaeGreatLtAp
import Derived.Test.YtlamhfbdeinkkaeGreatBaCp
import Derived.Deep.CutRange
namespace Go.Proofs.YtlamhfbdeinkkaeGreat.St
open Go.RowKit Bk
set_option linter.unusedSimpArgs false
set_option linter.unusedVariables false
set_option maxRecDepth 20000

/-- What is known of a change that is done, at the place of its booking. -/
theorem chg_at {x : Sail} {id : Int} {T : Bkg → Int → Bkg → Prop} {y : Sail} {k : Nat} {b : Bkg} (h : P.Chg x id T 0 y) (hk : x.bks[k]? = some b) (hid : b.id = id) : ∃ b', T b 0 b' ∧ y = P.setB x (x.bks.set k b') ∧ P.SailE x 0 ∧ P.SailE y 0 ∧ b.state ≠ 3 := by
  rcases h with ⟨q, _, h1, h2, _⟩ | ⟨hE, ⟨_, h, _⟩ | ⟨k', b2, h1, h2, ⟨_, h, _⟩ | ⟨_, z, q, ⟨b', hT, hz⟩, h3, ⟨h4, _, h5⟩ | ⟨h4, h5, _⟩⟩⟩⟩
  · exact absurd h2.symm h1
  · exact absurd h (by decide)
  · exact absurd rfl h
  · subst h4
    subst h5
    have hr := (bksI_rise (pre_zero (sail_ok hE).1).2.1).2
    obtain ⟨hid2, hst⟩ : b2.id = id ∧ b2.state ≠ 3 := by
      rcases h1 with ⟨k3, b3, e, g1, g2, g3⟩ | ⟨e, _⟩
      · obtain rfl : k' = k3 := by omega
        rw [h2] at g1
        obtain rfl := Option.some.inj g1
        exact ⟨g2, g3⟩
      · omega
    have hbb : b = b2 := id_one hr (List.mem_of_getElem? hk) (List.mem_of_getElem? h2) (by rw [hid, hid2])
    subst hbb
    have hkk : k = k' := by
      obtain ⟨a1, a2⟩ := List.getElem?_eq_some_iff.1 hk
      obtain ⟨c1, c2⟩ := List.getElem?_eq_some_iff.1 h2
      have hp := List.pairwise_iff_getElem.1 hr
      rcases Nat.lt_trichotomy k k' with hlt | e | hlt
      · have := hp k k' a1 c1 hlt
        rw [a2, c2] at this
        omega
      · exact e
      · have := hp k' k c1 a1 hlt
        rw [a2, c2] at this
        omega
    subst hkk
    exact ⟨b', hT, hz, hE, h3, hst⟩
  · exact absurd h5.symm h4
theorem paid_zero {day : Int} {b b' : Bkg} (h : P.payT day (Fo.P.owed b.fol) b 0 b') : Fo.P.folE b'.fol = 0 ∧ Fo.P.owed b'.fol = 0 := by
  obtain ⟨h1, h2⟩ := h
  have hb := h2 rfl
  have h1 := h1.symm
  rw [P.payE] at h1
  split at h1
  · exact absurd h1 (by decide)
  · split at h1
    · next hf =>
      split at h1
      · exact absurd h1 (by decide)
      · rw [Fo.P.addE, if_pos hf] at h1
        have e : b'.fol = b.fol ++ [(day, 2, -Fo.P.owed b.fol)] := by
          rw [hb]
          show Fo.P.add b.fol (day, 2, -Fo.P.owed b.fol) = _
          rw [Fo.P.add, if_pos hf, Fo.plus_pos h1]
        rw [e]
        refine ⟨h1, ?_⟩
        rw [Fo.P.owed, if_pos h1, Fo.sumL_ftot, Fo.ftot_append, Fo.P.owed, if_pos hf, Fo.sumL_ftot]
        show Fo.P.ftot Fo.P.all b.fol + (-Fo.P.ftot Fo.P.all b.fol + 0) = 0
        omega
    · next hf => exact absurd h1 hf
theorem come_kind {l : List Fo.Ent} {day : Int} : ∀ e ∈ Fo.P.come l day 0, e.2.1 ≠ 3 := by
  intro e he
  rw [Fo.P.come, Fo.P.worth] at he
  obtain ⟨h1, h2⟩ := List.mem_filter.1 he
  rcases List.mem_cons.1 h1 with rfl | h1
  · show (4 : Int) ≠ 3
    decide
  · rcases List.mem_cons.1 h1 with rfl | h1
    · simp at h2
    · rcases List.mem_cons.1 h1 with rfl | h1
      · show (4 : Int) ≠ 3
        decide
      · exact absurd h1 (by simp)
theorem opt_gone {x : Sail} {b b' : Bkg} (h : P.cnT x b 0 b') (hs : b.state = 1) : ∃ l, b'.fol = b.fol ++ l ∧ ∀ e ∈ l, e.2.1 ≠ 3 := by
  obtain ⟨h1, h2⟩ := h
  have h1 := h1.symm
  have hp : P.canP x b = 0 := by rw [P.canP, if_pos hs]
  have h3 : Fo.P.canE b.fol x.day (P.canP x b) = 0 := by
    rw [P.cnE] at h1
    split at h1
    · exact h1
    · next hh => exact absurd h1 hh
  rw [hp] at h3
  refine ⟨Fo.P.come b.fol x.day 0, ?_, come_kind⟩
  rw [h2 rfl]
  show Fo.P.can b.fol x.day (P.canP x b) = _
  rw [hp]
  exact (Fo.can_some h3).2.2.2.2
/-- What is moved there and back is as it was. -/
theorem move_back {x d y : Sail} {id c r : Int} {k : Nat} {b : Bkg} (hk : x.bks[k]? = some b) (hid : b.id = id) (h : P.Chg x id (P.mvT x c) 0 d) (h2 : P.Chg d id (P.mvT d b.cabin) r y) : r = 0 ∧ y = x := by
  obtain ⟨b', hT, hd, hE, hE2, hst⟩ := chg_at h hk hid
  obtain ⟨_, _, h0, hbk, _⟩ := sail_ok hE
  have hbb := hbk b (List.mem_of_getElem? hk)
  obtain ⟨t1, t2⟩ := hT
  have t1 := t1.symm
  have hb' := t2 rfl
  have hmv := mov_zero (by rw [← mv_mov h0 hbb]; exact t1)
  obtain ⟨m1, m2, m3, m4, m5⟩ := hmv
  subst hb'
  have hkl := (List.getElem?_eq_some_iff.1 hk).1
  have hdk : d.bks[k]? = some (P.setC b c) := by
    rw [hd]
    exact List.getElem?_set_self hkl
  have hback : P.setB d (d.bks.set k (P.setC (P.setC b c) b.cabin)) = x := by
    have e1 : P.setC (P.setC b c) b.cabin = b := rfl
    have e2 : d.bks.set k b = x.bks := by
      rw [hd]
      show (x.bks.set k (P.setC b c)).set k b = x.bks
      rw [List.set_set]
      conv => lhs; rw [← (List.getElem?_eq_some_iff.1 hk).2]
      exact List.set_getElem_self hkl
    rw [e1, e2, hd]
    rfl
  have hmE : P.mvE d b.cabin (P.setC b c) = 0 := by
    have hcab : b.cabin < x.s.bs.length := by
      obtain ⟨_, _, _, _, _, hke, hkk, _⟩ := bk_ok hbb
      rcases hkk with h1 | h1
      · have := kind_named hke h1
        simp [P.cabB, P.btw] at this
        omega
      · rcases (kind_prom hke h1).2.2.2.2 with h2 | ⟨h2, _⟩
        · omega
        · simp [P.cabB, P.btw] at h2
          omega
    have hds : d.s = x.s := by rw [hd]; rfl
    rw [P.mvE, if_neg (by show ¬ c = -1; omega), if_neg (by rw [hds]; omega), if_neg (by show ¬ b.cabin = c; omega), hds]
    show P.checkE x.s b = 0
    rw [P.checkE, if_pos h0]
    exact hbb
  have hr := (bksI_rise (pre_zero (sail_ok hE2).1).2.1).2
  rcases h2 with ⟨q, g1, g2, _⟩ | ⟨_, ⟨g1, _⟩ | ⟨k', b2, g1, g2, g3⟩⟩
  · exact absurd (SailE.one g1 hE2) g2
  · have hlive : P.LiveIs d.bks id k := .inl ⟨k, _, rfl, hdk, hid, hst⟩
    have := LiveIs.one hr g1 hlive
    omega
  · have hlive : P.LiveIs d.bks id k := .inl ⟨k, _, rfl, hdk, hid, hst⟩
    have hkk := LiveIs.one hr g1 hlive
    obtain rfl : k' = k := by omega
    rw [hdk] at g2
    obtain rfl := Option.some.inj g2
    rcases g3 with ⟨⟨b3, e1, _⟩, e2, _⟩ | ⟨_, z, q, ⟨b3, ⟨_, e1⟩, e3⟩, e4, e5⟩
    · rw [hmE] at e1
      exact absurd e1 e2
    · have e1 := e1 rfl
      subst e1
      rw [hback] at e3
      subst e3
      have hq := SailE.one e4 hE
      rcases e5 with ⟨_, e6, e7⟩ | ⟨e6, _⟩
      · exact ⟨e6, e7⟩
      · exact absurd hq e6
theorem chg_err2 {x : Sail} {id r : Int} {T : Bkg → Int → Bkg → Prop} {y : Sail} (h : P.Chg x id T r y) (hr : ¬ r = 0) : y = P.zeroS := by
  rcases h with ⟨q, _, _, _, h⟩ | ⟨_, ⟨_, _, h⟩ | ⟨k, b, _, _, ⟨_, _, h⟩ | ⟨_, z, q, _, _, ⟨_, h, _⟩ | ⟨_, _, h⟩⟩⟩⟩
  · exact h
  · exact h
  · exact h
  · exact absurd h hr
  · exact h
theorem bat_place {l : List Bkg} {id n : Int} (h : P.bat id 0 l = n) : n = -1 ∨ ∃ (k : Nat) (b : Bkg), n = k ∧ l[k]? = some b ∧ b.id = id := by
  by_cases hn : n = -1
  · exact .inl hn
  · right
    have hex : ∃ b ∈ l, b.id = id := by
      apply Classical.byContradiction
      intro hno
      exact hn (h.symm.trans (bat_neg.2 (fun b hb e => hno ⟨b, hb, e⟩)))
    obtain ⟨k, e1, e2, b, e3, e4⟩ := bat_at 0 hex
    exact ⟨k, b, by rw [← h, e1, Nat.zero_add], e3, e4⟩

set_option maxHeartbeats 64000000 in
theorem changePaid_walk (x : Sail) (a : SailA) (id c : Int) (w : World) (hs : SailAt w x a) :
    Calls Tryz.prog 7 #[V.sail x a, .int .i64 id, .int .i64 c] w fun e w' => e = .returned (.bool true) ∧ Below w.heap.size w w' := by
  have hle := hs.bks.le
  have hmx := hs.bks.max
  unfold maxLen at hmx
  have HS : Aside (SailAt w x a) := hs
  have HW : Aside (Below w.heap.size w (W.sail w x a)) := sail_below w x a
  have HX : Aside (SRow (W.sail w x a) w.heap.size x a) := RowIs.new w _ _
  clear hs
  go_enter Tryz.func7, Tryz.ntmps7
  go_wp2_with fail
  refine (changeBegun_any _).mono ?_
  rintro e v1 ⟨rfl, hb1⟩
  replace HW := rW HW hb1
  replace HX := rA HX hb1
  clear hb1
  go_wp2_with fail
  refine (Fo.folioBegun_any _).mono ?_
  rintro e v2 ⟨rfl, hb2⟩
  replace HW := rW HW hb2
  replace HX := rA HX hb2
  clear hb2
  obtain ⟨d0, d1, d2, d3, d4, d5, d6, d7, d8, d9, d10, d11, d12⟩ := SRow.box HX.out
  go_wp2_with fail
  refine (bookingAt_any x a id _ (HS.out.below HW.out)).mono ?_
  rintro e v3 ⟨rfl, hb3⟩
  replace HW := rW HW hb3
  replace HX := rA HX hb3
  clear d0 d1 d2 d3 d4 d5 d6 d7 d8 d9 d10 d11 d12
  clear hb3
  generalize hbt : P.bat id 0 x.bks = n
  have HBT : Aside (P.bat id 0 x.bks = n) := hbt
  clear hbt
  obtain ⟨d0, d1, d2, d3, d4, d5, d6, d7, d8, d9, d10, d11, d12⟩ := SRow.box HX.out
  go_wp2_with fail
  refine (refSail_any x a _ (HS.out.below HW.out)).mono ?_
  rintro e v4 ⟨v, rfl, hv, hb4⟩
  replace HW := rW HW hb4
  replace HX := rA HX hb4
  clear d0 d1 d2 d3 d4 d5 d6 d7 d8 d9 d10 d11 d12
  clear hb4
  have HV : Aside (P.SailE x v) := hv
  clear hv
  cases hz : (v != 0)
  rotate_left
  · go_wp2
    go_ret
    exact ⟨rfl, HW.out⟩
  obtain rfl : v = 0 := by simpa using hz
  rcases bat_place HBT.out with rfl | ⟨k, b, rfl, hget, hid⟩
  · go_wp2
    go_ret
    exact ⟨rfl, HW.out⟩
  have hkl : k < x.bks.length := (List.getElem?_eq_some_iff.1 hget).1
  have hkl2 : (k : Int) < x.bks.length := by omega
  have hk0 : ((k : Int) < 0) = False := by simp
  have HG : Aside (x.bks[k]? = some b) := hget
  have HID : Aside (b.id = id) := hid
  have HF0 : Aside (Fo.P.folE b.fol = 0) := (bk_ok ((sail_ok HV.out).2.2.2.1 b (List.mem_of_getElem? hget))).2.2.2.2.2.2.2.2
  clear hget hid hz
  obtain ⟨b1, o1, g1, fo1, fc1, hao1, hbw1, hd1, ⟨y0, y1, y2, y3, y4, y5, y6, y7, y8, y9, y10⟩, hfe1⟩ := BksAt.get HS.out.bks (HW.out) k hkl
  obtain rfl : b = g1 := by
    have h0 := congrArg (fun l => l[0]?) hd1
    simp only [List.getElem?_drop, Nat.add_zero, List.getElem?_cons_zero] at h0
    rw [HG.out] at h0
    exact Option.some.inj h0
  clear hd1 hbw1
  have HAO : Aside (a.ao = some ⟨b1, o1, none⟩) := hao1
  have HFE : Aside (Fo.EntsAt v4 fo1 fc1 b.fol) := hfe1
  clear hfe1 hao1
  obtain ⟨d0, d1, d2, d3, d4, d5, d6, d7, d8, d9, d10, d11, d12⟩ := SRow.box HX.out
  rw [HAO.out] at d11
  go_wp2_with fail
  refine (Fo.owed_any fo1 fc1 b.fol _ HFE.out).mono ?_
  rintro e v5 ⟨rfl, hb5⟩
  rw [HF0.out]
  clear d0 d1 d2 d3 d4 d5 d6 d7 d8 d9 d10 d11 d12 y0 y1 y2 y3 y4 y5 y6 y7 y8 y9 y10 HFE
  replace HW := rW HW hb5
  replace HX := rA HX hb5
  clear hb5
  generalize hm : Fo.P.owed b.fol = m
  have HM : Aside (Fo.P.owed b.fol = m) := hm
  clear hm
  obtain ⟨d0, d1, d2, d3, d4, d5, d6, d7, d8, d9, d10, d11, d12⟩ := SRow.box HX.out
  go_wp2_with fail
  refine (pay_any x a id m _ (HS.out.below HW.out)).mono ?_
  rintro e u1 ⟨r1, z1, a1, rfl, hS1, hU1, hb1⟩
  replace HW := rW HW hb1
  replace HX := rA HX hb1
  clear d0 d1 d2 d3 d4 d5 d6 d7 d8 d9 d10 d11 d12
  have HS1 : Aside (P.Chg x id (P.payT x.day m) r1 z1) := hS1
  have hs1' := sail_below u1 z1 a1
  have HA1 : Aside (SailAt (W.sail u1 z1 a1) z1 a1) := hU1.at.below hs1'
  have HR1 : Aside (SRow (W.sail u1 z1 a1) u1.heap.size z1 a1) := RowIs.new u1 _ _
  replace HW := rW HW hs1'
  replace HX := rA HX hs1'
  clear hS1 hU1 hb1 hs1'
  go_upto_if 53 with (fail)
  go_cut [] from 53 to 69 (fun wx => Aside (Below w.heap.size w wx) ∧ Aside (SRow wx w.heap.size x a))
  case first =>
    cases hz : (r1 == 0)
    · go_wp2
      go_meet
      exact ⟨HW, HX⟩
    obtain rfl : r1 = 0 := by simpa using hz
    obtain ⟨b', hT, hzz, _, _, _⟩ := chg_at HS1.out HG.out HID.out
    have HT : Aside (Fo.P.folE b'.fol = 0 ∧ Fo.P.owed b'.fol = 0) := paid_zero (HM.out ▸ hT)
    have hzl : z1.bks.length = x.bks.length := by rw [hzz]; exact List.length_set
    have HZG : Aside (z1.bks[k]? = some b') := by rw [hzz]; exact List.getElem?_set_self hkl
    have hkz : k < z1.bks.length := by omega
    have hkz2 : (k : Int) < z1.bks.length := by omega
    clear hT hzz hzl hz
    obtain ⟨b2, o2, g2, fo2, fc2, hao2, hbw2, hd2, ⟨y0, y1, y2, y3, y4, y5, y6, y7, y8, y9, y10⟩, hfe2⟩ := BksAt.get HA1.out.bks (Below.refl _ _) k hkz
    obtain rfl : b' = g2 := by
      have h0 := congrArg (fun l => l[0]?) hd2
      simp only [List.getElem?_drop, Nat.add_zero, List.getElem?_cons_zero] at h0
      rw [HZG.out] at h0
      exact Option.some.inj h0
    clear hd2 hbw2
    have HFE : Aside (Fo.EntsAt (W.sail u1 z1 a1) fo2 fc2 b'.fol) := hfe2
    obtain ⟨d0, d1, d2, d3, d4, d5, d6, d7, d8, d9, d10, d11, d12⟩ := SRow.box HR1.out
    rw [hao2] at d11
    clear hfe2 hao2
    go_wp2_with fail
    refine (Fo.owed_any fo2 fc2 b'.fol _ HFE.out).mono ?_
    rintro e u9 ⟨rfl, hb9⟩
    rw [HT.out.1, HT.out.2]
    replace HW := rW HW hb9
    replace HX := rA HX hb9
    clear d0 d1 d2 d3 d4 d5 d6 d7 d8 d9 d10 d11 d12 y0 y1 y2 y3 y4 y5 y6 y7 y8 y9 y10 HFE hb9
    go_wp2
    go_meet
    exact ⟨HW, HX⟩
  case rest =>
  obtain ⟨HW, HX⟩ := hcut
  obtain ⟨d0, d1, d2, d3, d4, d5, d6, d7, d8, d9, d10, d11, d12⟩ := SRow.box HX.out
  go_wp2_with fail
  refine (cancel_any x a id _ (HS.out.below HW.out)).mono ?_
  rintro e u2 ⟨r2, z2, a2, rfl, hS2, hU2, hb2⟩
  replace HW := rW HW hb2
  replace HX := rA HX hb2
  clear d0 d1 d2 d3 d4 d5 d6 d7 d8 d9 d10 d11 d12
  have HS2 : Aside (P.Chg x id (P.cnT x) r2 z2) := hS2
  have hs2' := sail_below u2 z2 a2
  have HA2 : Aside (SailAt (W.sail u2 z2 a2) z2 a2) := hU2.at.below hs2'
  have HR2 : Aside (SRow (W.sail u2 z2 a2) u2.heap.size z2 a2) := RowIs.new u2 _ _
  replace HW := rW HW hs2'
  replace HX := rA HX hs2'
  clear hS2 hU2 hb2 hs2'
  go_upto_region 15 with (fail)
  go_cut [86] from 76 to 85 (fun s wx => s = .bool (decide (r2 = 0) && decide (b.state = 1)) ∧ Aside (Below w.heap.size w wx) ∧ Aside (SRow wx w.heap.size x a) ∧ Aside (SailAt wx z2 a2) ∧ Aside (SRow wx u2.heap.size z2 a2))
  case first =>
    obtain ⟨b3, o3, g3, fo3, fc3, hao3, hbw3, hd3, ⟨y0, y1, y2, y3, y4, y5, y6, y7, y8, y9, y10⟩, hfe3⟩ := BksAt.get HS.out.bks (HW.out) k hkl
    obtain rfl : b = g3 := by
      have h0 := congrArg (fun l => l[0]?) hd3
      simp only [List.getElem?_drop, Nat.add_zero, List.getElem?_cons_zero] at h0
      rw [HG.out] at h0
      exact Option.some.inj h0
    clear hd3 hbw3
    obtain ⟨d0, d1, d2, d3, d4, d5, d6, d7, d8, d9, d10, d11, d12⟩ := SRow.box HX.out
    rw [hao3] at d11
    clear hao3 hfe3
    cases hz : (r2 == 0)
    · have hz' : decide (r2 = 0) = false := by simpa using hz
      go_wp2
      go_meet
      exact ⟨by rw [hz']; rfl, HW, HX, HA2, HR2⟩
    obtain rfl : r2 = 0 := by simpa using hz
    go_wp2
    go_meet
    refine ⟨?_, HW, HX, HA2, HR2⟩
    by_cases hst : b.state = 1 <;> simp [hst]
  case rest =>
  obtain ⟨rfl, HW, HX, HA2, HR2⟩ := hcut
  rename World => wA
  go_upto_if 86 with (fail)
  go_cut [] from 86 to 115 (fun wx => Aside (Below w.heap.size w wx) ∧ Aside (SRow wx w.heap.size x a))
  case first =>
    cases hz : (decide (r2 = 0) && decide (b.state = 1))
    · go_wp2
      go_meet
      exact ⟨HW, HX⟩
    rw [Bool.and_eq_true, decide_eq_true_iff, decide_eq_true_iff] at hz
    obtain ⟨rfl, hst⟩ := hz
    obtain ⟨b', hT, hzz, _, _, _⟩ := chg_at HS2.out HG.out HID.out
    obtain ⟨l, hl1, hl2⟩ := opt_gone hT hst
    have HL1 : Aside (b'.fol = b.fol ++ l) := hl1
    have HL2 : Aside (∀ e ∈ l, e.2.1 ≠ 3) := hl2
    have hzl : z2.bks.length = x.bks.length := by rw [hzz]; exact List.length_set
    have HZG : Aside (z2.bks[k]? = some b') := by rw [hzz]; exact List.getElem?_set_self hkl
    have hkz : k < z2.bks.length := by omega
    have hkz2 : (k : Int) < z2.bks.length := by omega
    clear hT hzz hzl hl1 hl2 hst
    obtain ⟨b3, o3, g3, fo3, fc3, hao3, hbw3, hd3, ⟨y0, y1, y2, y3, y4, y5, y6, y7, y8, y9, y10⟩, hfe3⟩ := BksAt.get HS.out.bks (HW.out) k hkl
    obtain rfl : b = g3 := by
      have h0 := congrArg (fun l => l[0]?) hd3
      simp only [List.getElem?_drop, Nat.add_zero, List.getElem?_cons_zero] at h0
      rw [HG.out] at h0
      exact Option.some.inj h0
    clear hd3 hbw3
    obtain ⟨d0, d1, d2, d3, d4, d5, d6, d7, d8, d9, d10, d11, d12⟩ := SRow.box HX.out
    rw [hao3] at d11
    clear hao3 hfe3
    go_upto_region 16 with (fail)
    go_cut [14] from 87 to 93 (fun s wx => s = .int .i64 (b.fol.length : Nat) ∧ Aside (Below w.heap.size w wx) ∧ Aside (SRow wx w.heap.size x a) ∧ Aside (SailAt wx z2 a2) ∧ Aside (SRow wx u2.heap.size z2 a2))
    case first =>
      go_wp2
      go_meet
      exact ⟨rfl, HW, HX, HA2, HR2⟩
    case rest =>
    obtain ⟨rfl, HW, HX, HA2, HR2⟩ := hcut
    rename World => wB
    clear d0 d1 d2 d3 d4 d5 d6 d7 d8 d9 d10 d11 d12 y0 y1 y2 y3 y4 y5 y6 y7 y8 y9 y10
    go_wp2_with fail
    go_loopg [14] (b'.fol.length - b.fol.length) (fun q iv wr => ∃ i : Nat, b.fol.length ≤ i ∧ i ≤ b'.fol.length ∧ q = b'.fol.length - i ∧ iv = .int .i64 i ∧ Aside (Below w.heap.size w wr) ∧ Aside (SRow wr w.heap.size x a) ∧ Aside (SailAt wr z2 a2) ∧ Aside (SRow wr u2.heap.size z2 a2))
    case atStart => exact ⟨b.fol.length, Nat.le_refl _, by rw [HL1.out, List.length_append]; omega, rfl, rfl, HW, HX, HA2, HR2⟩
    case round =>
      clear HW HX HA2 HR2
      obtain ⟨i, hi0, hi, rfl, rfl, HW, HX, HA2, HR2⟩ := hrel
      obtain ⟨b4, o4, g4, fo4, fc4, hao4, hbw4, hd4, ⟨y0, y1, y2, y3, y4, y5, y6, y7, y8, y9, y10⟩, hfe4⟩ := BksAt.get HA2.out.bks (Below.refl _ _) k hkz
      obtain rfl : b' = g4 := by
        have h0 := congrArg (fun l => l[0]?) hd4
        simp only [List.getElem?_drop, Nat.add_zero, List.getElem?_cons_zero] at h0
        rw [HZG.out] at h0
        exact Option.some.inj h0
      clear hd4 hbw4
      have HFE : Aside (Fo.EntsAt wr fo4 fc4 b'.fol) := hfe4
      obtain ⟨d0, d1, d2, d3, d4, d5, d6, d7, d8, d9, d10, d11, d12⟩ := SRow.box HR2.out
      rw [hao4] at d11
      clear hfe4 hao4
      by_cases hlt : i < b'.fol.length
      rotate_left
      · obtain rfl : i = b'.fol.length := by omega
        go_wp2
        go_meet
        exact ⟨HW, HX⟩
      have hlt2 : (i : Int) < b'.fol.length := by omega
      have hle4 := HFE.out.le
      have hmx4 := HFE.out.max
      unfold maxLen at hmx4
      obtain ⟨eb, eo, ex, ey, ez, hea, heb, hed, k0, k1, k2⟩ := Fo.EntsAt.get HFE.out (Below.refl _ _) i hlt
      have HKN : Aside (ey ≠ 3) := by
        have hm : (ex, ey, ez) ∈ l := by
          have h1 : (ex, ey, ez) ∈ b'.fol.drop i := by rw [hed]; simp
          rw [HL1.out, List.drop_append, List.drop_of_length_le hi0, List.nil_append] at h1
          exact List.mem_of_mem_drop h1
        exact HL2.out _ hm
      have hy3 : (ey == 3) = false := by have := HKN.out; simpa using this
      rw [hea] at y10
      clear hed hea
      go_wp2
      go_roundg (b'.fol.length - (i + 1))
      case measure => omega
      case rel => exact ⟨i + 1, by omega, by omega, rfl, by go_num, HW, HX, HA2, HR2⟩
  case rest =>
  obtain ⟨HW, HX⟩ := hcut
  obtain ⟨d0, d1, d2, d3, d4, d5, d6, d7, d8, d9, d10, d11, d12⟩ := SRow.box HX.out
  go_wp2_with fail
  refine (move_any x a id c _ (HS.out.below HW.out)).mono ?_
  rintro e u3 ⟨r3, z3, a3, rfl, hS3, hU3, hb3⟩
  replace HW := rW HW hb3
  replace HX := rA HX hb3
  clear d0 d1 d2 d3 d4 d5 d6 d7 d8 d9 d10 d11 d12
  have HS3 : Aside (P.Chg x id (P.mvT x c) r3 z3) := hS3
  have hs3' := sail_below u3 z3 a3
  have HA3 : Aside (SailAt (W.sail u3 z3 a3) z3 a3) := hU3.at.below hs3'
  have HR3 : Aside (SRow (W.sail u3 z3 a3) u3.heap.size z3 a3) := RowIs.new u3 _ _
  replace HW := rW HW hs3'
  replace HX := rA HX hs3'
  clear hS3 hU3 hb3 hs3'
  cases hz : (r3 != 0)
  rotate_left
  · have hz0 := chg_err2 HS3.out (by simpa using hz)
    have hlen : z3.bks.length = 0 := by rw [hz0]; rfl
    obtain ⟨d0, d1, d2, d3, d4, d5, d6, d7, d8, d9, d10, d11, d12⟩ := SRow.box HR3.out
    rw [hlen] at d11
    clear hz0 hlen
    go_wp2
    go_ret
    exact ⟨rfl, HW.out⟩
  obtain rfl : r3 = 0 := by simpa using hz
  clear hz
  go_upto_region 24 with (fail)
  change Code.wp Tryz.prog _ _ _ (W.sail u3 z3 a3)
  generalize W.sail u3 z3 a3 = wB at HW HX HA3 HR3 ⊢
  obtain ⟨b5, o5, g5, fo5, fc5, hao5, hbw5, hd5, ⟨y0, y1, y2, y3, y4, y5, y6, y7, y8, y9, y10⟩, hfe5⟩ := BksAt.get HS.out.bks (HW.out) k hkl
  obtain rfl : b = g5 := by
    have h0 := congrArg (fun l => l[0]?) hd5
    simp only [List.getElem?_drop, Nat.add_zero, List.getElem?_cons_zero] at h0
    rw [HG.out] at h0
    exact Option.some.inj h0
  clear hd5 hbw5
  obtain ⟨d0, d1, d2, d3, d4, d5, d6, d7, d8, d9, d10, d11, d12⟩ := SRow.box HX.out
  rw [hao5] at d11
  obtain ⟨e0, e1, e2, e3, e4, e5, e6, e7, e8, e9, e10, e11, e12⟩ := SRow.box HR3.out
  have hx1 : w.heap.size < wB.heap.size := HX.out.lt
  have hx3 : u3.heap.size < wB.heap.size := HR3.out.lt
  have hx5 : b5 < wB.heap.size := World.block_lt_of_cell? _ _ y5
  clear hfe5 hao5
  go_cut [16, 9] from 129 to 140 (fun s16 s9 wx => ∃ (G : Nat) (a5 : SailA), s16 = .pointer (some ⟨G, 0, none⟩) ∧ s9 = .int .i64 0 ∧ Aside (Below w.heap.size w wx) ∧ Aside (SRow wx w.heap.size x a) ∧ Aside (SRow wx G x a5) ∧ Aside (SailAt wx x a5))
  case first =>
    refine wp_region_before (L := 13) (S := fun u : World => u.cell? ⟨u3.heap.size, 0, none⟩ = some (.int .i64 z3.s.legs) ∧ u.cell? ⟨u3.heap.size, 1, none⟩ = some (.int .i64 z3.s.souls) ∧ u.cell? ⟨u3.heap.size, 2, none⟩ = some (.slice a3.v.cao z3.s.cs.length a3.v.cc) ∧ u.cell? ⟨u3.heap.size, 3, none⟩ = some (.slice a3.v.bao z3.s.bs.length a3.v.bc) ∧ u.cell? ⟨u3.heap.size, 4, none⟩ = some (.slice a3.lo z3.L.length a3.lc) ∧ u.cell? ⟨u3.heap.size, 5, none⟩ = some (.int .i64 z3.al) ∧ u.cell? ⟨u3.heap.size, 6, none⟩ = some (.int .i64 z3.th) ∧ u.cell? ⟨u3.heap.size, 7, none⟩ = some (.slice a3.bo z3.B.length a3.bc) ∧ u.cell? ⟨u3.heap.size, 8, none⟩ = some (.int .i64 z3.dn) ∧ u.cell? ⟨u3.heap.size, 9, none⟩ = some (.int .i64 z3.day) ∧ u.cell? ⟨u3.heap.size, 10, none⟩ = some (.int .i64 z3.lvs) ∧ u.cell? ⟨u3.heap.size, 11, none⟩ = some (.slice a3.ao z3.bks.length a3.cap) ∧ u.cell? ⟨u3.heap.size, 12, none⟩ = some (.bool z3.cl) ∧ u.cell? ⟨w.heap.size, 11, none⟩ = some (.slice (some ⟨b5, o5, none⟩) x.bks.length a.cap) ∧ u.cell? ⟨b5, o5 + k * 11 + 5, none⟩ = some (.int .i64 b.cabin)) (by kernel_rfl) (fun hset => ?_)
    have hS : (fun u : World => u.cell? ⟨u3.heap.size, 0, none⟩ = some (.int .i64 z3.s.legs) ∧ u.cell? ⟨u3.heap.size, 1, none⟩ = some (.int .i64 z3.s.souls) ∧ u.cell? ⟨u3.heap.size, 2, none⟩ = some (.slice a3.v.cao z3.s.cs.length a3.v.cc) ∧ u.cell? ⟨u3.heap.size, 3, none⟩ = some (.slice a3.v.bao z3.s.bs.length a3.v.bc) ∧ u.cell? ⟨u3.heap.size, 4, none⟩ = some (.slice a3.lo z3.L.length a3.lc) ∧ u.cell? ⟨u3.heap.size, 5, none⟩ = some (.int .i64 z3.al) ∧ u.cell? ⟨u3.heap.size, 6, none⟩ = some (.int .i64 z3.th) ∧ u.cell? ⟨u3.heap.size, 7, none⟩ = some (.slice a3.bo z3.B.length a3.bc) ∧ u.cell? ⟨u3.heap.size, 8, none⟩ = some (.int .i64 z3.dn) ∧ u.cell? ⟨u3.heap.size, 9, none⟩ = some (.int .i64 z3.day) ∧ u.cell? ⟨u3.heap.size, 10, none⟩ = some (.int .i64 z3.lvs) ∧ u.cell? ⟨u3.heap.size, 11, none⟩ = some (.slice a3.ao z3.bks.length a3.cap) ∧ u.cell? ⟨u3.heap.size, 12, none⟩ = some (.bool z3.cl) ∧ u.cell? ⟨w.heap.size, 11, none⟩ = some (.slice (some ⟨b5, o5, none⟩) x.bks.length a.cap) ∧ u.cell? ⟨b5, o5 + k * 11 + 5, none⟩ = some (.int .i64 b.cabin)) { wB with drawn := wB.drawn + 1 } := ⟨cellIn (dr _) e0, cellIn (dr _) e1, cellIn (dr _) e2, cellIn (dr _) e3, cellIn (dr _) e4, cellIn (dr _) e5, cellIn (dr _) e6, cellIn (dr _) e7, cellIn (dr _) e8, cellIn (dr _) e9, cellIn (dr _) e10, cellIn (dr _) e11, cellIn (dr _) e12, cellIn (dr _) d11, cellIn (dr _) y5⟩
    refine wpAnyB_put (i := 0) (n := 40) (d := (some 130)) (v := ?_) hset rfl rfl (by kernel_rfl) (by kernel_rfl) (by kernel_rfl) (by kernel_rfl) (by decide) (fun _ _ _ h => h) (Or.inl ⟨by rfl, ?_⟩) hS (fun hset => ?_)
    rotate_left
    · (intro w hSw; (try dsimp only at hSw); go_simp; try with_reducible rfl)
    simp only [Act.put, List.setIfInBounds_toArray, List.set_cons_zero, List.set_cons_succ, List.getElem_toArray, List.getElem_cons_succ, List.getElem_cons_zero]
    refine wpAnyB_put0 (i := 1) (d := (some 131)) (v := ?_) hset rfl rfl (by kernel_rfl) (by kernel_rfl) (by kernel_rfl) (by decide) (fun _ _ _ h => h) (Or.inl ⟨by rfl, ?_⟩) (fun _ => hS) (fun hset => ?_)
    rotate_left
    · (intro w; go_simp; try with_reducible rfl)
    simp only [Act.put, List.setIfInBounds_toArray, List.set_cons_zero, List.set_cons_succ, List.getElem_toArray, List.getElem_cons_succ, List.getElem_cons_zero]
    refine wpAnyB_put0 (i := 2) (d := (some 132)) (v := ?_) hset rfl rfl (by kernel_rfl) (by kernel_rfl) (by kernel_rfl) (by decide) (fun _ _ _ h => h) (Or.inl ⟨by rfl, ?_⟩) (fun _ => hS) (fun hset => ?_)
    rotate_left
    · (intro w; go_simp; try with_reducible rfl)
    simp only [Act.put, List.setIfInBounds_toArray, List.set_cons_zero, List.set_cons_succ, List.getElem_toArray, List.getElem_cons_succ, List.getElem_cons_zero]
    refine wpAnyB_put (i := 3) (n := 40) (d := (some 133)) (v := ?_) hset rfl rfl (by kernel_rfl) (by kernel_rfl) (by kernel_rfl) (by kernel_rfl) (by decide) (fun _ _ _ h => h) (Or.inl ⟨by rfl, ?_⟩) hS (fun hset => ?_)
    rotate_left
    · (intro w hSw; (try dsimp only at hSw); go_simp; try with_reducible rfl)
    simp only [Act.put, List.setIfInBounds_toArray, List.set_cons_zero, List.set_cons_succ, List.getElem_toArray, List.getElem_cons_succ, List.getElem_cons_zero]
    refine wpAnyB_put0 (i := 4) (d := (some 134)) (v := ?_) hset rfl rfl (by kernel_rfl) (by kernel_rfl) (by kernel_rfl) (by decide) (fun _ _ _ h => h) (Or.inl ⟨by rfl, ?_⟩) (fun _ => hS) (fun hset => ?_)
    rotate_left
    · (intro w; go_simp; try with_reducible rfl)
    simp only [Act.put, List.setIfInBounds_toArray, List.set_cons_zero, List.set_cons_succ, List.getElem_toArray, List.getElem_cons_succ, List.getElem_cons_zero]
    refine wpAnyB_put0 (i := 5) (d := (some 135)) (v := ?_) hset rfl rfl (by kernel_rfl) (by kernel_rfl) (by kernel_rfl) (by decide) (fun _ _ _ h => h) (Or.inl ⟨by rfl, ?_⟩) (fun _ => hS) (fun hset => ?_)
    rotate_left
    · (intro w; go_simp; try with_reducible rfl)
    simp only [Act.put, List.setIfInBounds_toArray, List.set_cons_zero, List.set_cons_succ, List.getElem_toArray, List.getElem_cons_succ, List.getElem_cons_zero]
    refine wpAnyB_put0 (i := 6) (d := (some 136)) (v := ?_) hset rfl rfl (by kernel_rfl) (by kernel_rfl) (by kernel_rfl) (by decide) (fun _ _ _ h => h) (Or.inl ⟨by rfl, ?_⟩) (fun _ => hS) (fun hset => ?_)
    rotate_left
    · (intro w; go_simp; try with_reducible rfl)
    simp only [Act.put, List.setIfInBounds_toArray, List.set_cons_zero, List.set_cons_succ, List.getElem_toArray, List.getElem_cons_succ, List.getElem_cons_zero]
    refine wpAnyB_put (i := 7) (n := 40) (d := (some 137)) (v := ?_) hset rfl rfl (by kernel_rfl) (by kernel_rfl) (by kernel_rfl) (by kernel_rfl) (by decide) (fun _ _ _ h => h) (Or.inl ⟨by rfl, ?_⟩) hS (fun hset => ?_)
    rotate_left
    · (intro w hSw; (try dsimp only at hSw); go_simp; try with_reducible rfl)
    simp only [Act.put, List.setIfInBounds_toArray, List.set_cons_zero, List.set_cons_succ, List.getElem_toArray, List.getElem_cons_succ, List.getElem_cons_zero]
    refine wpAnyB_steps (rs := [8, 12]) (by kernel_rfl) (by simp) ?_
    refine StepsB.ahead rfl hset (by kernel_rfl) (fun hset K hK => ?way2) (StepsB.ahead rfl hset (by kernel_rfl) (fun hset K hK => ?way1) StepsB.nil)
    case' way2 =>
      simp only [List.getElem_toArray, List.getElem_cons_succ, List.getElem_cons_zero]
      go_simp
      refine (move_any z3 a3 id b.cabin _ (HA3.out.below (dr _))).mono ?_
      rintro e w5 ⟨r5, z5, a5, rfl, hS5, hU5, hb5'⟩
      have hb5 : Below wB.heap.size wB w5 := bvia (dr _) hb5'
      have hmb := move_back HG.out HID.out HS3.out hS5
      have hr5 : r5 = 0 := hmb.1
      have hz5 : x = z5 := hmb.2.symm
      clear hmb hS5
      subst hr5
      subst hz5
      have HU5 := hU5
      have hU9 : SailUp wB.heap.size w5 x a5 := HU5
      refine hK.out _ _ ?_ (fun hS => ?_)
      · exact ⟨cellIn hb5 e0, cellIn hb5 e1, cellIn hb5 e2, cellIn hb5 e3, cellIn hb5 e4, cellIn hb5 e5, cellIn hb5 e6, cellIn hb5 e7, cellIn hb5 e8, cellIn hb5 e9, cellIn hb5 e10, cellIn hb5 e11, cellIn hb5 e12, cellIn hb5 d11, cellIn hb5 y5⟩
      clear hK K
      try simp only [Act.put, List.setIfInBounds_toArray, List.set_cons_zero, List.set_cons_succ, List.getElem_toArray, List.getElem_cons_succ, List.getElem_cons_zero]
      refine wpAnyB_put0 (i := 9) (d := (some 129)) (v := ?_) hset rfl rfl (by kernel_rfl) (by kernel_rfl) (by kernel_rfl) (by decide) (fun _ _ _ h => h) (Or.inl ⟨by rfl, ?_⟩) (fun _ => hS) (fun hset => ?_)
      rotate_left
      · (intro w; go_simp; try with_reducible rfl)
      simp only [Act.put, List.setIfInBounds_toArray, List.set_cons_zero, List.set_cons_succ, List.getElem_toArray, List.getElem_cons_succ, List.getElem_cons_zero]
      refine wpAnyB_put0 (i := 10) (d := (some 139)) (v := ?_) hset rfl rfl (by kernel_rfl) (by kernel_rfl) (by kernel_rfl) (by decide) (fun _ _ _ h => h) (Or.inl ⟨by rfl, ?_⟩) (fun _ => hS) (fun hset => ?_)
      rotate_left
      · (intro w; go_simp; try with_reducible rfl)
      simp only [Act.put, List.setIfInBounds_toArray, List.set_cons_zero, List.set_cons_succ, List.getElem_toArray, List.getElem_cons_succ, List.getElem_cons_zero]
      refine wpAnyB_put0 (i := 11) (d := (some 140)) (v := ?_) hset rfl rfl (by kernel_rfl) (by kernel_rfl) (by kernel_rfl) (by decide) (fun _ _ _ h => h) (Or.inl ⟨by rfl, ?_⟩) (fun _ => hS) (fun hset => ?_)
      rotate_left
      · (intro w; go_simp; try with_reducible rfl)
      simp only [Act.put, List.setIfInBounds_toArray, List.set_cons_zero, List.set_cons_succ, List.getElem_toArray, List.getElem_cons_succ, List.getElem_cons_zero]
      refine wpAnyB_steps (rs := [12]) (by kernel_rfl) (by simp) ?_
      refine StepsB.ahead rfl hset (by kernel_rfl) (fun hset K hK => ?_) StepsB.nil
      simp only [List.getElem_toArray, List.getElem_cons_succ, List.getElem_cons_zero]
      go_simp
      have hb8 : Below wB.heap.size wB (w5.alloc O.zs) := bvia hb5 (al _ _)
      have hZ8 : RowIs (w5.alloc O.zs) w5.heap.size C.zs := RowIs.new w5 _ _
      have hg8 : wB.heap.size ≤ w5.heap.size := hb5.size
      refine hK.out _ _ ?_ (fun hS => ?_)
      · exact ⟨cellIn (bvia hb5 (al _ _)) e0, cellIn (bvia hb5 (al _ _)) e1, cellIn (bvia hb5 (al _ _)) e2, cellIn (bvia hb5 (al _ _)) e3, cellIn (bvia hb5 (al _ _)) e4, cellIn (bvia hb5 (al _ _)) e5, cellIn (bvia hb5 (al _ _)) e6, cellIn (bvia hb5 (al _ _)) e7, cellIn (bvia hb5 (al _ _)) e8, cellIn (bvia hb5 (al _ _)) e9, cellIn (bvia hb5 (al _ _)) e10, cellIn (bvia hb5 (al _ _)) e11, cellIn (bvia hb5 (al _ _)) e12, cellIn (bvia hb5 (al _ _)) d11, cellIn (bvia hb5 (al _ _)) y5⟩
      clear hK K
      try simp only [Act.put, List.setIfInBounds_toArray, List.set_cons_zero, List.set_cons_succ, List.getElem_toArray, List.getElem_cons_succ, List.getElem_cons_zero]
      refine wpAnyB_steps (rs := [13]) (by kernel_rfl) (by simp) ?_
      refine StepsB.behind rfl hset (by kernel_rfl) (by kernel_rfl) (fun hset K hK => ?_) StepsB.nil
      refine step_of' (by rfl) (wp_stC 32 _ _ (by rfl) _ C.zs (C.sail x a5) Tryz.sizeSail (by rfl) (by rfl) hZ8 rfl (sail_one _ _) ?_)
      intro w9 hr9 gr9
      have HA9 : Aside (SailAt w9 x a5) := hU9 w9 ⟨by have := gr9.size; simp at this; omega, fun b h1 h2 => by rw [gr9.block b (by simp; omega) (by simp; omega), (al w5 O.zs).block b h2]⟩
      refine hK.out _ _ ?_
      clear hK K
      try simp only [Act.put, List.setIfInBounds_toArray, List.set_cons_zero, List.set_cons_succ, List.getElem_toArray, List.getElem_cons_succ, List.getElem_cons_zero]
      refine wpAnyB_put0 (i := 14) (d := (some 9)) (v := ?_) hset rfl rfl (by kernel_rfl) (by kernel_rfl) (by kernel_rfl) (by decide) (fun _ _ _ h => h) (Or.inl ⟨by rfl, ?_⟩) (fun h => absurd h (by decide)) (fun hset => ?_)
      rotate_left
      · (intro w; go_simp; try with_reducible rfl)
      simp only [Act.put, List.setIfInBounds_toArray, List.set_cons_zero, List.set_cons_succ, List.getElem_toArray, List.getElem_cons_succ, List.getElem_cons_zero]
    case' way1 =>
      simp only [List.getElem_toArray, List.getElem_cons_succ, List.getElem_cons_zero]
      go_simp
      refine hK.out _ _ ?_ (fun hS => ?_)
      · exact ⟨cellIn (bvia (dr _) (al _ _)) e0, cellIn (bvia (dr _) (al _ _)) e1, cellIn (bvia (dr _) (al _ _)) e2, cellIn (bvia (dr _) (al _ _)) e3, cellIn (bvia (dr _) (al _ _)) e4, cellIn (bvia (dr _) (al _ _)) e5, cellIn (bvia (dr _) (al _ _)) e6, cellIn (bvia (dr _) (al _ _)) e7, cellIn (bvia (dr _) (al _ _)) e8, cellIn (bvia (dr _) (al _ _)) e9, cellIn (bvia (dr _) (al _ _)) e10, cellIn (bvia (dr _) (al _ _)) e11, cellIn (bvia (dr _) (al _ _)) e12, cellIn (bvia (dr _) (al _ _)) d11, cellIn (bvia (dr _) (al _ _)) y5⟩
      clear hK K
      try simp only [Act.put, List.setIfInBounds_toArray, List.set_cons_zero, List.set_cons_succ, List.getElem_toArray, List.getElem_cons_succ, List.getElem_cons_zero]
      refine wpAnyB_steps (rs := [8]) (by kernel_rfl) (by simp) ?_
      refine StepsB.ahead rfl hset (by kernel_rfl) (fun hset K hK => ?_) StepsB.nil
      simp only [List.getElem_toArray, List.getElem_cons_succ, List.getElem_cons_zero]
      go_simp
      refine (move_any z3 a3 id b.cabin _ (HA3.out.below (bvia (dr _) (al _ _)))).mono ?_
      rintro e w5 ⟨r5, z5, a5, rfl, hS5, hU5, hb5'⟩
      have hb5 : Below wB.heap.size wB w5 := bvia (bvia (dr _) (al _ _)) hb5'
      have hmb := move_back HG.out HID.out HS3.out hS5
      have hr5 : r5 = 0 := hmb.1
      have hz5 : x = z5 := hmb.2.symm
      clear hmb hS5
      subst hr5
      subst hz5
      have HU5 := hU5
      have hU8 : SailUp (wB.drew.alloc O.zs).heap.size w5 x a5 := HU5
      have hb8 : Below wB.heap.size wB w5 := hb5
      have hZ8 : RowIs w5 wB.heap.size C.zs := (RowIs.new wB.drew C.zs 32).below hb5'
      have hg8 : wB.heap.size ≤ wB.heap.size := Nat.le_refl _
      refine hK.out _ _ ?_ (fun hS => ?_)
      · exact ⟨cellIn hb5 e0, cellIn hb5 e1, cellIn hb5 e2, cellIn hb5 e3, cellIn hb5 e4, cellIn hb5 e5, cellIn hb5 e6, cellIn hb5 e7, cellIn hb5 e8, cellIn hb5 e9, cellIn hb5 e10, cellIn hb5 e11, cellIn hb5 e12, cellIn hb5 d11, cellIn hb5 y5⟩
      clear hK K
      try simp only [Act.put, List.setIfInBounds_toArray, List.set_cons_zero, List.set_cons_succ, List.getElem_toArray, List.getElem_cons_succ, List.getElem_cons_zero]
      refine wpAnyB_put0 (i := 9) (d := (some 129)) (v := ?_) hset rfl rfl (by kernel_rfl) (by kernel_rfl) (by kernel_rfl) (by decide) (fun _ _ _ h => h) (Or.inl ⟨by rfl, ?_⟩) (fun _ => hS) (fun hset => ?_)
      rotate_left
      · (intro w; go_simp; try with_reducible rfl)
      simp only [Act.put, List.setIfInBounds_toArray, List.set_cons_zero, List.set_cons_succ, List.getElem_toArray, List.getElem_cons_succ, List.getElem_cons_zero]
      refine wpAnyB_put0 (i := 10) (d := (some 139)) (v := ?_) hset rfl rfl (by kernel_rfl) (by kernel_rfl) (by kernel_rfl) (by decide) (fun _ _ _ h => h) (Or.inl ⟨by rfl, ?_⟩) (fun _ => hS) (fun hset => ?_)
      rotate_left
      · (intro w; go_simp; try with_reducible rfl)
      simp only [Act.put, List.setIfInBounds_toArray, List.set_cons_zero, List.set_cons_succ, List.getElem_toArray, List.getElem_cons_succ, List.getElem_cons_zero]
      refine wpAnyB_put0 (i := 11) (d := (some 140)) (v := ?_) hset rfl rfl (by kernel_rfl) (by kernel_rfl) (by kernel_rfl) (by decide) (fun _ _ _ h => h) (Or.inl ⟨by rfl, ?_⟩) (fun _ => hS) (fun hset => ?_)
      rotate_left
      · (intro w; go_simp; try with_reducible rfl)
      simp only [Act.put, List.setIfInBounds_toArray, List.set_cons_zero, List.set_cons_succ, List.getElem_toArray, List.getElem_cons_succ, List.getElem_cons_zero]
      refine wpAnyB_steps (rs := [13]) (by kernel_rfl) (by simp) ?_
      refine StepsB.behind rfl hset (by kernel_rfl) (by kernel_rfl) (fun hset K hK => ?_) StepsB.nil
      refine step_of' (by rfl) (wp_stC 32 _ _ (by rfl) _ C.zs (C.sail x a5) Tryz.sizeSail (by rfl) (by rfl) hZ8 rfl (sail_one _ _) ?_)
      intro w9 hr9 gr9
      have HA9 : Aside (SailAt w9 x a5) := (hU8.up (Up.gr gr9 (by simp))).at
      refine hK.out _ _ ?_
      clear hK K
      try simp only [Act.put, List.setIfInBounds_toArray, List.set_cons_zero, List.set_cons_succ, List.getElem_toArray, List.getElem_cons_succ, List.getElem_cons_zero]
      refine wpAnyB_put0 (i := 14) (d := (some 9)) (v := ?_) hset rfl rfl (by kernel_rfl) (by kernel_rfl) (by kernel_rfl) (by decide) (fun _ _ _ h => h) (Or.inl ⟨by rfl, ?_⟩) (fun h => absurd h (by decide)) (fun hset => ?_)
      rotate_left
      · (intro w; go_simp; try with_reducible rfl)
      simp only [Act.put, List.setIfInBounds_toArray, List.set_cons_zero, List.set_cons_succ, List.getElem_toArray, List.getElem_cons_succ, List.getElem_cons_zero]
    all_goals refine wpAnyB_done (by kernel_rfl) ?_ _
    all_goals
      have HB9 : Below wB.heap.size wB w9 := below_gr hb8 hb8.size gr9 hg8
      have HR9 : Aside (SRow w9 _ x a5) := hr9
      replace HW := rW HW HB9
      replace HX := rA HX HB9
      go_wp2
      go_meet
      exact ⟨_, a5, rfl, rfl, HW, HX, HR9, HA9⟩
  case rest =>
  obtain ⟨G, a5, rfl, rfl, HW, HX, HR5, HA5⟩ := hcut
  clear d0 d1 d2 d3 d4 d5 d6 d7 d8 d9 d10 d11 d12 y0 y1 y2 y3 y4 y5 y6 y7 y8 y9 y10 e0 e1 e2 e3 e4 e5 e6 e7 e8 e9 e10 e11 e12 HR3 HA3
  obtain ⟨d0, d1, d2, d3, d4, d5, d6, d7, d8, d9, d10, d11, d12⟩ := SRow.box HX.out
  obtain ⟨e0, e1, e2, e3, e4, e5, e6, e7, e8, e9, e10, e11, e12⟩ := SRow.box HR5.out
  go_wp2_with fail
  refine (sameSailing_eq x a5 a _ HA5.out (HS.out.below HW.out)).mono ?_
  rintro e w9 ⟨rfl, hb9⟩
  replace HW := rW HW hb9
  go_wp2
  go_ret
  exact ⟨rfl, HW.out⟩

end Go.Proofs.YtlamhfbdeinkkaeGreat.St
