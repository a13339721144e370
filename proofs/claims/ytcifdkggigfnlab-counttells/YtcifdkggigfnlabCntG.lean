/- The walk of CountTells (written by gen_ctells.py). -/
import Derived.Test.YtcifdkggigfnlabCntF
import Derived.Lib.QuietBelow
namespace Go.Proofs.Ytcifdkggigfnlab
open Go.RowKit
set_option linter.unusedSimpArgs false
set_option linter.unusedVariables false

theorem cntA_bad {l : List Int} {n f t m : Int} (h : P.cntB l n f t ≠ 0) : P.cntA l n f t m = P.cntB l n f t := by rw [P.cntA, if_neg h]
theorem cntA_zero0 {l : List Int} {n f t : Int} : P.cntA l n f t 0 = P.cntB l n f t := by
  rw [P.cntA]
  split
  · rename_i h; rw [h]; rfl
  · rfl
theorem add_bad {l : List Int} {n f t m : Int} (h : P.cntA l n f t m ≠ 0) : P.addCE l n f t m = P.cntA l n f t m ∧ P.addCL l n f t m = [] := by
  have e : P.addCE l n f t m = P.cntA l n f t m := by rw [P.addCE, if_neg h]
  exact ⟨e, by rw [P.addCL, e, if_neg h]⟩
theorem take_bad {l : List Int} {n f t m : Int} (h : P.cntA l n f t m ≠ 0) : P.takeCE l n f t m = P.cntA l n f t m ∧ P.takeCL l n f t m = [] := by
  have e : P.takeCE l n f t m = P.cntA l n f t m := by rw [P.takeCE, if_neg h]
  exact ⟨e, by rw [P.takeCL, e, if_neg h]⟩
theorem fits_bad {l : List Int} {n f t m k : Int} (h : P.cntA l n f t m ≠ 0) : P.fitsE l n f t m k = P.cntA l n f t m ∧ P.fitsB l n f t m k = false := by
  have e : P.fitsE l n f t m k = P.cntA l n f t m := by rw [P.fitsE, if_neg h]
  exact ⟨e, by rw [P.fitsB, e]; simp [h]⟩
theorem fits_most {l : List Int} {n f t m k : Int} (h : P.cntA l n f t m = 0) (hk : k < 0 ∨ 60 < k) : P.fitsE l n f t m k = 3 ∧ P.fitsB l n f t m k = false := by
  have e : P.fitsE l n f t m k = 3 := by rw [P.fitsE, if_pos h, if_neg (by simp [P.btw]; omega)]
  exact ⟨e, by rw [P.fitsB, e]; rfl⟩
theorem fits_ok {l : List Int} {n f t m k : Int} (h : P.cntA l n f t m = 0) (hk : ¬ k < 0) (hk2 : ¬ 60 < k) : P.fitsE l n f t m k = 0 := by
  rw [P.fitsE, if_pos h, if_pos (by simp [P.btw]; omega)]
theorem are_yes {a b : List Int} {e z : Int} (h1 : e = z) (h2 : a = P.wantI z b) : (decide (e = z) && decide (a = P.wantI z b)) = true := by simp [h1, h2]
theorem add_yes {l : List Int} {n f t m : Int} (h : P.cntA l n f t m = 0) {ok : Bool} (ho : P.okL (P.moreL l f.toNat t.toNat m) = ok) :
    P.addCE l n f t m = (if ok = true then 0 else 2) ∧ P.addCL l n f t m = P.wantI (if ok = true then 0 else 2) (P.moreL l f.toNat t.toNat m) := by
  obtain ⟨h1, hm⟩ := cntA_zero h
  obtain ⟨hln, n1, n7, hx, f0, ft, tn, _⟩ := cntB_zero h1
  have h2 := ok_add (f := f.toNat) (t := t.toNat) (by omega) (by omega) hx hm
  rw [ho] at h2
  have e : P.addCE l n f t m = (if ok = true then 0 else 2) := by
    rw [P.addCE, if_pos h]
    cases hs : (P.seg l f.toNat t.toNat).any (fun x => decide (60 < x + m)) <;> rw [hs] at h2 <;> subst h2 <;> rfl
  refine ⟨e, ?_⟩
  rw [P.addCL, e, P.wantI]
theorem take_yes {l : List Int} {n f t m : Int} (h : P.cntA l n f t m = 0) {ok : Bool} (ho : P.okL (P.moreL l f.toNat t.toNat (-m)) = ok) :
    P.takeCE l n f t m = (if ok = true then 0 else 4) ∧ P.takeCL l n f t m = P.wantI (if ok = true then 0 else 4) (P.moreL l f.toNat t.toNat (-m)) := by
  obtain ⟨h1, hm⟩ := cntA_zero h
  obtain ⟨hln, n1, n7, hx, f0, ft, tn, _⟩ := cntB_zero h1
  have h2 := ok_take (f := f.toNat) (t := t.toNat) (by omega) (by omega) hx hm
  rw [ho] at h2
  have e : P.takeCE l n f t m = (if ok = true then 0 else 4) := by
    rw [P.takeCE, if_pos h]
    cases hs : (P.seg l f.toNat t.toNat).any (fun x => decide (x < m)) <;> rw [hs] at h2 <;> subst h2 <;> rfl
  refine ⟨e, ?_⟩
  rw [P.takeCL, e, P.wantI]

set_option maxRecDepth 4000 in
set_option maxHeartbeats 8000000 in
theorem countTells_walk (ao : Option Addr) (cap : Nat) (l : List Int) (n f t m k : Int) (W : World) (hl : IntsAt W ao cap l) :
    Calls Try.prog 3 #[.slice ao l.length cap, .int .i64 n, .agg #[.int .i64 f, .int .i64 t], .int .i64 m, .int .i64 k] W fun e w' => e = .returned (.bool true) ∧ Below W.heap.size W w' := by
  go_enter Try.func3, Try.ntmps3
  go_wp2_with fail
  refine (cntAdd_any _ _ l n f t m _ (SlAt.below RInt.mono hl (by go_grown))).mono ?_
  rintro e w1 ⟨v1, rfl, own1, hb1⟩
  have hB1 : Below W.heap.size W w1 := bvia (by go_grown) hb1
  have c0 : w1.cell? ⟨W.heap.size, 0, none⟩ = some (.int .i64 f) := cellIn hb1 (by simp)
  have c1 : w1.cell? ⟨W.heap.size, 1, none⟩ = some (.int .i64 t) := cellIn hb1 (by simp)
  obtain ⟨ao1, cap1, rfl, a1⟩ := OwnI.at own1
  clear own1
  go_wp2_with fail
  refine (cntTake_any _ _ l n f t m _ (SlAt.below RInt.mono hl hB1)).mono ?_
  rintro e w2 ⟨v2, rfl, own2, hb2⟩
  have hB2 := bvia hB1 hb2
  have d0 := cellIn hb2 c0
  have d1 := cellIn hb2 c1
  obtain ⟨ao2, cap2, rfl, a2⟩ := OwnI.at own2
  clear own2
  go_wp2_with fail
  refine (cntFits_any _ _ l n f t m k _ (SlAt.below RInt.mono hl hB2)).mono ?_
  rintro e w3 ⟨rfl, hb3⟩
  have hB3 := bvia hB2 hb3
  have e0 := cellIn hb3 d0
  have e1 := cellIn hb3 d1
  go_wp2_with fail
  refine (cntPeak_any _ _ l n f t _ (SlAt.below RInt.mono hl hB3)).mono ?_
  rintro e w4 ⟨p, a, rfl, hp0, hp1, hb4⟩
  have hB4 := bvia hB3 hb4
  have g0 := cellIn hb4 e0
  have g1 := cellIn hb4 e1
  have HP : Aside ((P.cntB l n f t ≠ 0 → p = 0 ∧ a = 0) ∧ (P.cntB l n f t = 0 → PeakAt l f.toNat t.toNat p a)) := ⟨hp0, hp1⟩
  have q24 : Below w2.heap.size w2 w4 := bvia hb3 hb4
  have q14 : Below w1.heap.size w1 w4 := bvia hb2 q24
  clear hp0 hp1 c0 c1 d0 d1 e0 e1 hb3 hb4 hb2 hB1 hB2 hB3 hb1
  have r0 := cell_regrown g0
  have r1 := cell_regrown g1
  go_wp2
  refine wp_region_quiet_below (by kernel_rfl) (by kernel_rfl) ?_
  repeat (quiet_step (exact Calls.regrown_of (checkMore_any _ _ _ _ _ _ _ _ (SlAt.below RInt.mono hl (bvia hB4 (below_regrown _ _ _))))))
  refine wpQuiet_nil ?_
  intro w5 hw5
  obtain ⟨⟨dq, osq⟩, hw5⟩ := hw5
  have hb5 := below_regrown w4 dq osq
  rw [← hw5] at hb5
  clear hw5 r0 r1
  have hB5 := bvia hB4 hb5
  have q25 := bvia q24 hb5
  have q15 := bvia q14 hb5
  have h0 := cellIn hb5 g0
  have h1 := cellIn hb5 g1
  rw [cntA_zero0]
  clear hB4 q24 q14 g0 g1 hb5
  have HN : ∀ u : World, IntsAt u none 0 [] := fun u => SlAt.nilOf u
  by_cases hcb : P.cntB l n f t = 0
  · obtain ⟨hln, n1, n7, hx, f0, ft, tn, _⟩ := cntB_zero hcb
    have hpk := HP.out.2 hcb
    clear HP
    obtain ⟨F, rfl⟩ : ∃ F : Nat, f = F := ⟨f.toNat, by omega⟩
    obtain ⟨T, rfl⟩ : ∃ T : Nat, t = T := ⟨t.toNat, by omega⟩
    simp only [Int.toNat_natCast] at hpk
    have hpx := getD_in hx a
    rw [hpk.is] at hpx
    have HPK : Aside (PeakAt l F T p a) := hpk
    have HX : Aside (∀ x ∈ l, 0 ≤ x ∧ x ≤ 60) := hx
    have HCB : Aside (P.cntB l n F T = 0) := hcb
    rw [hcb]
    clear hpk hx hcb
    by_cases hca : P.cntA l n F T m = 0
    · have hm := (cntA_zero hca).2
      have HCA : Aside (P.cntA l n F T m = 0) := hca
      rw [hca]
      clear hca
      by_cases hk0 : k < 0
      · cases hok : P.okL (P.moreL l F T m)
        · cases his : P.okL (P.moreL l F T (-m))
          · have HT1 : Aside ((decide (P.addCE l n F T m = 2) && decide (P.addCL l n F T m = P.wantI 2 (P.moreL l F T m))) = true) := are_yes (add_yes (f := F) (t := T) HCA.out hok).1 (add_yes (f := F) (t := T) HCA.out hok).2
            have HT2 : Aside ((decide (P.takeCE l n F T m = 4) && decide (P.takeCL l n F T m = P.wantI 4 (P.moreL l F T (-m)))) = true) := are_yes (take_yes (f := F) (t := T) HCA.out his).1 (take_yes (f := F) (t := T) HCA.out his).2
            rw [(fits_most HCA.out (.inl hk0)).1, (fits_most HCA.out (.inl hk0)).2]
            go_wp2_with fail
            refine (moreOf_any _ _ l F T m _ (SlAt.below RInt.mono hl hB5) (by omega) (by omega) (by omega) HX.out (by omega)).mono ?_
            rintro e w6 ⟨v6, rfl, own6, hb6⟩
            rw [hok]
            obtain ⟨ao6, cap6, rfl, a6⟩ := OwnI.at own6
            clear own6
            have i0 := cellIn hb6 h0
            have i1 := cellIn hb6 h1
            have hB6 := bvia hB5 hb6
            go_wp2_with fail
            refine (moreOf_any _ _ l F T (-m) _ (SlAt.below RInt.mono hl hB6) (by omega) (by omega) (by omega) HX.out (by omega)).mono ?_
            rintro e w7 ⟨v7, rfl, own7, hb7⟩
            rw [his]
            obtain ⟨ao7, cap7, rfl, a7⟩ := OwnI.at own7
            clear own7
            have j0 := cellIn hb7 i0
            have j1 := cellIn hb7 i1
            have hB7 := bvia hB6 hb7
            go_wp2_with fail
            refine (peakOf_any _ _ l F T _ (SlAt.below RInt.mono hl hB7) (by omega) (by omega) (by omega) HX.out).mono ?_
            rintro e w8 ⟨p', a', rfl, hpk', hb8⟩
            obtain ⟨rfl, rfl⟩ := HPK.out.one hpk'
            have hB8 := bvia hB7 hb8
            have m68 := bvia hb7 hb8
            have q18 := bvia (bvia q15 hb6) m68
            have q28 := bvia (bvia q25 hb6) m68
            clear hpk' h0 h1 i0 i1 j0 j1 hB5 hB6 hB7 q15 q25 hb6 hb7

            go_wp2_with fail
            refine (countBegun_any _).mono ?_
            rintro e x1 ⟨rfl, k1⟩
            go_wp2_with fail
            refine (cntCheck_any _ _ l n _ (SlAt.below RInt.mono hl (bvia hB8 k1))).mono ?_
            rintro e x2 ⟨rfl, k2⟩
            go_wp2_with fail
            refine (refCount_any _ _ l n _ (SlAt.below RInt.mono hl (bvia (bvia hB8 k1) k2))).mono ?_
            rintro e x3 ⟨rfl, k3⟩
            have k13 := bvia (bvia k1 k2) k3
            go_wp2_with fail
            refine (intsAre_any _ _ _ _ (P.addCL l n F T m) (P.moreL l F T m) _ _ _ (SlAt.below RInt.mono a1 (bvia q18 k13)) (SlAt.below RInt.mono a6 (bvia m68 k13))).mono ?_
            rintro e x4 ⟨rfl, k4⟩
            rw [HT1.out]
            have k14 := bvia k13 k4
            go_wp2_with fail
            refine (intsAre_any _ _ _ _ (P.takeCL l n F T m) (P.moreL l F T (-m)) _ _ _ (SlAt.below RInt.mono a2 (bvia q28 k14)) (SlAt.below RInt.mono a7 (bvia hb8 k14))).mono ?_
            rintro e x5 ⟨rfl, k5⟩
            rw [HT2.out]
            go_wp2
            go_ret
            exact ⟨by simp, bvia (bvia hB8 k14) k5⟩
          · have HT1 : Aside ((decide (P.addCE l n F T m = 2) && decide (P.addCL l n F T m = P.wantI 2 (P.moreL l F T m))) = true) := are_yes (add_yes (f := F) (t := T) HCA.out hok).1 (add_yes (f := F) (t := T) HCA.out hok).2
            have HT2 : Aside ((decide (P.takeCE l n F T m = 0) && decide (P.takeCL l n F T m = P.wantI 0 (P.moreL l F T (-m)))) = true) := are_yes (take_yes (f := F) (t := T) HCA.out his).1 (take_yes (f := F) (t := T) HCA.out his).2
            rw [(fits_most HCA.out (.inl hk0)).1, (fits_most HCA.out (.inl hk0)).2]
            go_wp2_with fail
            refine (moreOf_any _ _ l F T m _ (SlAt.below RInt.mono hl hB5) (by omega) (by omega) (by omega) HX.out (by omega)).mono ?_
            rintro e w6 ⟨v6, rfl, own6, hb6⟩
            rw [hok]
            obtain ⟨ao6, cap6, rfl, a6⟩ := OwnI.at own6
            clear own6
            have i0 := cellIn hb6 h0
            have i1 := cellIn hb6 h1
            have hB6 := bvia hB5 hb6
            go_wp2_with fail
            refine (moreOf_any _ _ l F T (-m) _ (SlAt.below RInt.mono hl hB6) (by omega) (by omega) (by omega) HX.out (by omega)).mono ?_
            rintro e w7 ⟨v7, rfl, own7, hb7⟩
            rw [his]
            obtain ⟨ao7, cap7, rfl, a7⟩ := OwnI.at own7
            clear own7
            have j0 := cellIn hb7 i0
            have j1 := cellIn hb7 i1
            have hB7 := bvia hB6 hb7
            go_wp2_with fail
            refine (peakOf_any _ _ l F T _ (SlAt.below RInt.mono hl hB7) (by omega) (by omega) (by omega) HX.out).mono ?_
            rintro e w8 ⟨p', a', rfl, hpk', hb8⟩
            obtain ⟨rfl, rfl⟩ := HPK.out.one hpk'
            have hB8 := bvia hB7 hb8
            have m68 := bvia hb7 hb8
            have q18 := bvia (bvia q15 hb6) m68
            have q28 := bvia (bvia q25 hb6) m68
            clear hpk' h0 h1 i0 i1 j0 j1 hB5 hB6 hB7 q15 q25 hb6 hb7

            go_wp2_with fail
            refine (countBegun_any _).mono ?_
            rintro e x1 ⟨rfl, k1⟩
            go_wp2_with fail
            refine (cntCheck_any _ _ l n _ (SlAt.below RInt.mono hl (bvia hB8 k1))).mono ?_
            rintro e x2 ⟨rfl, k2⟩
            go_wp2_with fail
            refine (refCount_any _ _ l n _ (SlAt.below RInt.mono hl (bvia (bvia hB8 k1) k2))).mono ?_
            rintro e x3 ⟨rfl, k3⟩
            have k13 := bvia (bvia k1 k2) k3
            go_wp2_with fail
            refine (intsAre_any _ _ _ _ (P.addCL l n F T m) (P.moreL l F T m) _ _ _ (SlAt.below RInt.mono a1 (bvia q18 k13)) (SlAt.below RInt.mono a6 (bvia m68 k13))).mono ?_
            rintro e x4 ⟨rfl, k4⟩
            rw [HT1.out]
            have k14 := bvia k13 k4
            go_wp2_with fail
            refine (intsAre_any _ _ _ _ (P.takeCL l n F T m) (P.moreL l F T (-m)) _ _ _ (SlAt.below RInt.mono a2 (bvia q28 k14)) (SlAt.below RInt.mono a7 (bvia hb8 k14))).mono ?_
            rintro e x5 ⟨rfl, k5⟩
            rw [HT2.out]
            go_wp2
            go_ret
            exact ⟨by simp, bvia (bvia hB8 k14) k5⟩
        · cases his : P.okL (P.moreL l F T (-m))
          · have HT1 : Aside ((decide (P.addCE l n F T m = 0) && decide (P.addCL l n F T m = P.wantI 0 (P.moreL l F T m))) = true) := are_yes (add_yes (f := F) (t := T) HCA.out hok).1 (add_yes (f := F) (t := T) HCA.out hok).2
            have HT2 : Aside ((decide (P.takeCE l n F T m = 4) && decide (P.takeCL l n F T m = P.wantI 4 (P.moreL l F T (-m)))) = true) := are_yes (take_yes (f := F) (t := T) HCA.out his).1 (take_yes (f := F) (t := T) HCA.out his).2
            rw [(fits_most HCA.out (.inl hk0)).1, (fits_most HCA.out (.inl hk0)).2]
            go_wp2_with fail
            refine (moreOf_any _ _ l F T m _ (SlAt.below RInt.mono hl hB5) (by omega) (by omega) (by omega) HX.out (by omega)).mono ?_
            rintro e w6 ⟨v6, rfl, own6, hb6⟩
            rw [hok]
            obtain ⟨ao6, cap6, rfl, a6⟩ := OwnI.at own6
            clear own6
            have i0 := cellIn hb6 h0
            have i1 := cellIn hb6 h1
            have hB6 := bvia hB5 hb6
            go_wp2_with fail
            refine (moreOf_any _ _ l F T (-m) _ (SlAt.below RInt.mono hl hB6) (by omega) (by omega) (by omega) HX.out (by omega)).mono ?_
            rintro e w7 ⟨v7, rfl, own7, hb7⟩
            rw [his]
            obtain ⟨ao7, cap7, rfl, a7⟩ := OwnI.at own7
            clear own7
            have j0 := cellIn hb7 i0
            have j1 := cellIn hb7 i1
            have hB7 := bvia hB6 hb7
            go_wp2_with fail
            refine (peakOf_any _ _ l F T _ (SlAt.below RInt.mono hl hB7) (by omega) (by omega) (by omega) HX.out).mono ?_
            rintro e w8 ⟨p', a', rfl, hpk', hb8⟩
            obtain ⟨rfl, rfl⟩ := HPK.out.one hpk'
            have hB8 := bvia hB7 hb8
            have m68 := bvia hb7 hb8
            have q18 := bvia (bvia q15 hb6) m68
            have q28 := bvia (bvia q25 hb6) m68
            clear hpk' h0 h1 i0 i1 j0 j1 hB5 hB6 hB7 q15 q25 hb6 hb7

            go_wp2_with fail
            refine (countBegun_any _).mono ?_
            rintro e x1 ⟨rfl, k1⟩
            go_wp2_with fail
            refine (cntCheck_any _ _ l n _ (SlAt.below RInt.mono hl (bvia hB8 k1))).mono ?_
            rintro e x2 ⟨rfl, k2⟩
            go_wp2_with fail
            refine (refCount_any _ _ l n _ (SlAt.below RInt.mono hl (bvia (bvia hB8 k1) k2))).mono ?_
            rintro e x3 ⟨rfl, k3⟩
            have k13 := bvia (bvia k1 k2) k3
            go_wp2_with fail
            refine (intsAre_any _ _ _ _ (P.addCL l n F T m) (P.moreL l F T m) _ _ _ (SlAt.below RInt.mono a1 (bvia q18 k13)) (SlAt.below RInt.mono a6 (bvia m68 k13))).mono ?_
            rintro e x4 ⟨rfl, k4⟩
            rw [HT1.out]
            have k14 := bvia k13 k4
            go_wp2_with fail
            refine (intsAre_any _ _ _ _ (P.takeCL l n F T m) (P.moreL l F T (-m)) _ _ _ (SlAt.below RInt.mono a2 (bvia q28 k14)) (SlAt.below RInt.mono a7 (bvia hb8 k14))).mono ?_
            rintro e x5 ⟨rfl, k5⟩
            rw [HT2.out]
            go_wp2
            go_ret
            exact ⟨by simp, bvia (bvia hB8 k14) k5⟩
          · have HT1 : Aside ((decide (P.addCE l n F T m = 0) && decide (P.addCL l n F T m = P.wantI 0 (P.moreL l F T m))) = true) := are_yes (add_yes (f := F) (t := T) HCA.out hok).1 (add_yes (f := F) (t := T) HCA.out hok).2
            have HT2 : Aside ((decide (P.takeCE l n F T m = 0) && decide (P.takeCL l n F T m = P.wantI 0 (P.moreL l F T (-m)))) = true) := are_yes (take_yes (f := F) (t := T) HCA.out his).1 (take_yes (f := F) (t := T) HCA.out his).2
            rw [(fits_most HCA.out (.inl hk0)).1, (fits_most HCA.out (.inl hk0)).2]
            go_wp2_with fail
            refine (moreOf_any _ _ l F T m _ (SlAt.below RInt.mono hl hB5) (by omega) (by omega) (by omega) HX.out (by omega)).mono ?_
            rintro e w6 ⟨v6, rfl, own6, hb6⟩
            rw [hok]
            obtain ⟨ao6, cap6, rfl, a6⟩ := OwnI.at own6
            clear own6
            have i0 := cellIn hb6 h0
            have i1 := cellIn hb6 h1
            have hB6 := bvia hB5 hb6
            go_wp2_with fail
            refine (moreOf_any _ _ l F T (-m) _ (SlAt.below RInt.mono hl hB6) (by omega) (by omega) (by omega) HX.out (by omega)).mono ?_
            rintro e w7 ⟨v7, rfl, own7, hb7⟩
            rw [his]
            obtain ⟨ao7, cap7, rfl, a7⟩ := OwnI.at own7
            clear own7
            have j0 := cellIn hb7 i0
            have j1 := cellIn hb7 i1
            have hB7 := bvia hB6 hb7
            go_wp2_with fail
            refine (peakOf_any _ _ l F T _ (SlAt.below RInt.mono hl hB7) (by omega) (by omega) (by omega) HX.out).mono ?_
            rintro e w8 ⟨p', a', rfl, hpk', hb8⟩
            obtain ⟨rfl, rfl⟩ := HPK.out.one hpk'
            have hB8 := bvia hB7 hb8
            have m68 := bvia hb7 hb8
            have q18 := bvia (bvia q15 hb6) m68
            have q28 := bvia (bvia q25 hb6) m68
            clear hpk' h0 h1 i0 i1 j0 j1 hB5 hB6 hB7 q15 q25 hb6 hb7

            go_wp2_with fail
            refine (countBegun_any _).mono ?_
            rintro e x1 ⟨rfl, k1⟩
            go_wp2_with fail
            refine (cntCheck_any _ _ l n _ (SlAt.below RInt.mono hl (bvia hB8 k1))).mono ?_
            rintro e x2 ⟨rfl, k2⟩
            go_wp2_with fail
            refine (refCount_any _ _ l n _ (SlAt.below RInt.mono hl (bvia (bvia hB8 k1) k2))).mono ?_
            rintro e x3 ⟨rfl, k3⟩
            have k13 := bvia (bvia k1 k2) k3
            go_wp2_with fail
            refine (intsAre_any _ _ _ _ (P.addCL l n F T m) (P.moreL l F T m) _ _ _ (SlAt.below RInt.mono a1 (bvia q18 k13)) (SlAt.below RInt.mono a6 (bvia m68 k13))).mono ?_
            rintro e x4 ⟨rfl, k4⟩
            rw [HT1.out]
            have k14 := bvia k13 k4
            go_wp2_with fail
            refine (intsAre_any _ _ _ _ (P.takeCL l n F T m) (P.moreL l F T (-m)) _ _ _ (SlAt.below RInt.mono a2 (bvia q28 k14)) (SlAt.below RInt.mono a7 (bvia hb8 k14))).mono ?_
            rintro e x5 ⟨rfl, k5⟩
            rw [HT2.out]
            go_wp2
            go_ret
            exact ⟨by simp, bvia (bvia hB8 k14) k5⟩
      · by_cases hk1 : 60 < k
        · cases hok : P.okL (P.moreL l F T m)
          · cases his : P.okL (P.moreL l F T (-m))
            · have HT1 : Aside ((decide (P.addCE l n F T m = 2) && decide (P.addCL l n F T m = P.wantI 2 (P.moreL l F T m))) = true) := are_yes (add_yes (f := F) (t := T) HCA.out hok).1 (add_yes (f := F) (t := T) HCA.out hok).2
              have HT2 : Aside ((decide (P.takeCE l n F T m = 4) && decide (P.takeCL l n F T m = P.wantI 4 (P.moreL l F T (-m)))) = true) := are_yes (take_yes (f := F) (t := T) HCA.out his).1 (take_yes (f := F) (t := T) HCA.out his).2
              rw [(fits_most HCA.out (.inr hk1)).1, (fits_most HCA.out (.inr hk1)).2]
              go_wp2_with fail
              refine (moreOf_any _ _ l F T m _ (SlAt.below RInt.mono hl hB5) (by omega) (by omega) (by omega) HX.out (by omega)).mono ?_
              rintro e w6 ⟨v6, rfl, own6, hb6⟩
              rw [hok]
              obtain ⟨ao6, cap6, rfl, a6⟩ := OwnI.at own6
              clear own6
              have i0 := cellIn hb6 h0
              have i1 := cellIn hb6 h1
              have hB6 := bvia hB5 hb6
              go_wp2_with fail
              refine (moreOf_any _ _ l F T (-m) _ (SlAt.below RInt.mono hl hB6) (by omega) (by omega) (by omega) HX.out (by omega)).mono ?_
              rintro e w7 ⟨v7, rfl, own7, hb7⟩
              rw [his]
              obtain ⟨ao7, cap7, rfl, a7⟩ := OwnI.at own7
              clear own7
              have j0 := cellIn hb7 i0
              have j1 := cellIn hb7 i1
              have hB7 := bvia hB6 hb7
              go_wp2_with fail
              refine (peakOf_any _ _ l F T _ (SlAt.below RInt.mono hl hB7) (by omega) (by omega) (by omega) HX.out).mono ?_
              rintro e w8 ⟨p', a', rfl, hpk', hb8⟩
              obtain ⟨rfl, rfl⟩ := HPK.out.one hpk'
              have hB8 := bvia hB7 hb8
              have m68 := bvia hb7 hb8
              have q18 := bvia (bvia q15 hb6) m68
              have q28 := bvia (bvia q25 hb6) m68
              clear hpk' h0 h1 i0 i1 j0 j1 hB5 hB6 hB7 q15 q25 hb6 hb7

              go_wp2_with fail
              refine (countBegun_any _).mono ?_
              rintro e x1 ⟨rfl, k1⟩
              go_wp2_with fail
              refine (cntCheck_any _ _ l n _ (SlAt.below RInt.mono hl (bvia hB8 k1))).mono ?_
              rintro e x2 ⟨rfl, k2⟩
              go_wp2_with fail
              refine (refCount_any _ _ l n _ (SlAt.below RInt.mono hl (bvia (bvia hB8 k1) k2))).mono ?_
              rintro e x3 ⟨rfl, k3⟩
              have k13 := bvia (bvia k1 k2) k3
              go_wp2_with fail
              refine (intsAre_any _ _ _ _ (P.addCL l n F T m) (P.moreL l F T m) _ _ _ (SlAt.below RInt.mono a1 (bvia q18 k13)) (SlAt.below RInt.mono a6 (bvia m68 k13))).mono ?_
              rintro e x4 ⟨rfl, k4⟩
              rw [HT1.out]
              have k14 := bvia k13 k4
              go_wp2_with fail
              refine (intsAre_any _ _ _ _ (P.takeCL l n F T m) (P.moreL l F T (-m)) _ _ _ (SlAt.below RInt.mono a2 (bvia q28 k14)) (SlAt.below RInt.mono a7 (bvia hb8 k14))).mono ?_
              rintro e x5 ⟨rfl, k5⟩
              rw [HT2.out]
              go_wp2
              go_ret
              exact ⟨by simp, bvia (bvia hB8 k14) k5⟩
            · have HT1 : Aside ((decide (P.addCE l n F T m = 2) && decide (P.addCL l n F T m = P.wantI 2 (P.moreL l F T m))) = true) := are_yes (add_yes (f := F) (t := T) HCA.out hok).1 (add_yes (f := F) (t := T) HCA.out hok).2
              have HT2 : Aside ((decide (P.takeCE l n F T m = 0) && decide (P.takeCL l n F T m = P.wantI 0 (P.moreL l F T (-m)))) = true) := are_yes (take_yes (f := F) (t := T) HCA.out his).1 (take_yes (f := F) (t := T) HCA.out his).2
              rw [(fits_most HCA.out (.inr hk1)).1, (fits_most HCA.out (.inr hk1)).2]
              go_wp2_with fail
              refine (moreOf_any _ _ l F T m _ (SlAt.below RInt.mono hl hB5) (by omega) (by omega) (by omega) HX.out (by omega)).mono ?_
              rintro e w6 ⟨v6, rfl, own6, hb6⟩
              rw [hok]
              obtain ⟨ao6, cap6, rfl, a6⟩ := OwnI.at own6
              clear own6
              have i0 := cellIn hb6 h0
              have i1 := cellIn hb6 h1
              have hB6 := bvia hB5 hb6
              go_wp2_with fail
              refine (moreOf_any _ _ l F T (-m) _ (SlAt.below RInt.mono hl hB6) (by omega) (by omega) (by omega) HX.out (by omega)).mono ?_
              rintro e w7 ⟨v7, rfl, own7, hb7⟩
              rw [his]
              obtain ⟨ao7, cap7, rfl, a7⟩ := OwnI.at own7
              clear own7
              have j0 := cellIn hb7 i0
              have j1 := cellIn hb7 i1
              have hB7 := bvia hB6 hb7
              go_wp2_with fail
              refine (peakOf_any _ _ l F T _ (SlAt.below RInt.mono hl hB7) (by omega) (by omega) (by omega) HX.out).mono ?_
              rintro e w8 ⟨p', a', rfl, hpk', hb8⟩
              obtain ⟨rfl, rfl⟩ := HPK.out.one hpk'
              have hB8 := bvia hB7 hb8
              have m68 := bvia hb7 hb8
              have q18 := bvia (bvia q15 hb6) m68
              have q28 := bvia (bvia q25 hb6) m68
              clear hpk' h0 h1 i0 i1 j0 j1 hB5 hB6 hB7 q15 q25 hb6 hb7

              go_wp2_with fail
              refine (countBegun_any _).mono ?_
              rintro e x1 ⟨rfl, k1⟩
              go_wp2_with fail
              refine (cntCheck_any _ _ l n _ (SlAt.below RInt.mono hl (bvia hB8 k1))).mono ?_
              rintro e x2 ⟨rfl, k2⟩
              go_wp2_with fail
              refine (refCount_any _ _ l n _ (SlAt.below RInt.mono hl (bvia (bvia hB8 k1) k2))).mono ?_
              rintro e x3 ⟨rfl, k3⟩
              have k13 := bvia (bvia k1 k2) k3
              go_wp2_with fail
              refine (intsAre_any _ _ _ _ (P.addCL l n F T m) (P.moreL l F T m) _ _ _ (SlAt.below RInt.mono a1 (bvia q18 k13)) (SlAt.below RInt.mono a6 (bvia m68 k13))).mono ?_
              rintro e x4 ⟨rfl, k4⟩
              rw [HT1.out]
              have k14 := bvia k13 k4
              go_wp2_with fail
              refine (intsAre_any _ _ _ _ (P.takeCL l n F T m) (P.moreL l F T (-m)) _ _ _ (SlAt.below RInt.mono a2 (bvia q28 k14)) (SlAt.below RInt.mono a7 (bvia hb8 k14))).mono ?_
              rintro e x5 ⟨rfl, k5⟩
              rw [HT2.out]
              go_wp2
              go_ret
              exact ⟨by simp, bvia (bvia hB8 k14) k5⟩
          · cases his : P.okL (P.moreL l F T (-m))
            · have HT1 : Aside ((decide (P.addCE l n F T m = 0) && decide (P.addCL l n F T m = P.wantI 0 (P.moreL l F T m))) = true) := are_yes (add_yes (f := F) (t := T) HCA.out hok).1 (add_yes (f := F) (t := T) HCA.out hok).2
              have HT2 : Aside ((decide (P.takeCE l n F T m = 4) && decide (P.takeCL l n F T m = P.wantI 4 (P.moreL l F T (-m)))) = true) := are_yes (take_yes (f := F) (t := T) HCA.out his).1 (take_yes (f := F) (t := T) HCA.out his).2
              rw [(fits_most HCA.out (.inr hk1)).1, (fits_most HCA.out (.inr hk1)).2]
              go_wp2_with fail
              refine (moreOf_any _ _ l F T m _ (SlAt.below RInt.mono hl hB5) (by omega) (by omega) (by omega) HX.out (by omega)).mono ?_
              rintro e w6 ⟨v6, rfl, own6, hb6⟩
              rw [hok]
              obtain ⟨ao6, cap6, rfl, a6⟩ := OwnI.at own6
              clear own6
              have i0 := cellIn hb6 h0
              have i1 := cellIn hb6 h1
              have hB6 := bvia hB5 hb6
              go_wp2_with fail
              refine (moreOf_any _ _ l F T (-m) _ (SlAt.below RInt.mono hl hB6) (by omega) (by omega) (by omega) HX.out (by omega)).mono ?_
              rintro e w7 ⟨v7, rfl, own7, hb7⟩
              rw [his]
              obtain ⟨ao7, cap7, rfl, a7⟩ := OwnI.at own7
              clear own7
              have j0 := cellIn hb7 i0
              have j1 := cellIn hb7 i1
              have hB7 := bvia hB6 hb7
              go_wp2_with fail
              refine (peakOf_any _ _ l F T _ (SlAt.below RInt.mono hl hB7) (by omega) (by omega) (by omega) HX.out).mono ?_
              rintro e w8 ⟨p', a', rfl, hpk', hb8⟩
              obtain ⟨rfl, rfl⟩ := HPK.out.one hpk'
              have hB8 := bvia hB7 hb8
              have m68 := bvia hb7 hb8
              have q18 := bvia (bvia q15 hb6) m68
              have q28 := bvia (bvia q25 hb6) m68
              clear hpk' h0 h1 i0 i1 j0 j1 hB5 hB6 hB7 q15 q25 hb6 hb7

              go_wp2_with fail
              refine (countBegun_any _).mono ?_
              rintro e x1 ⟨rfl, k1⟩
              go_wp2_with fail
              refine (cntCheck_any _ _ l n _ (SlAt.below RInt.mono hl (bvia hB8 k1))).mono ?_
              rintro e x2 ⟨rfl, k2⟩
              go_wp2_with fail
              refine (refCount_any _ _ l n _ (SlAt.below RInt.mono hl (bvia (bvia hB8 k1) k2))).mono ?_
              rintro e x3 ⟨rfl, k3⟩
              have k13 := bvia (bvia k1 k2) k3
              go_wp2_with fail
              refine (intsAre_any _ _ _ _ (P.addCL l n F T m) (P.moreL l F T m) _ _ _ (SlAt.below RInt.mono a1 (bvia q18 k13)) (SlAt.below RInt.mono a6 (bvia m68 k13))).mono ?_
              rintro e x4 ⟨rfl, k4⟩
              rw [HT1.out]
              have k14 := bvia k13 k4
              go_wp2_with fail
              refine (intsAre_any _ _ _ _ (P.takeCL l n F T m) (P.moreL l F T (-m)) _ _ _ (SlAt.below RInt.mono a2 (bvia q28 k14)) (SlAt.below RInt.mono a7 (bvia hb8 k14))).mono ?_
              rintro e x5 ⟨rfl, k5⟩
              rw [HT2.out]
              go_wp2
              go_ret
              exact ⟨by simp, bvia (bvia hB8 k14) k5⟩
            · have HT1 : Aside ((decide (P.addCE l n F T m = 0) && decide (P.addCL l n F T m = P.wantI 0 (P.moreL l F T m))) = true) := are_yes (add_yes (f := F) (t := T) HCA.out hok).1 (add_yes (f := F) (t := T) HCA.out hok).2
              have HT2 : Aside ((decide (P.takeCE l n F T m = 0) && decide (P.takeCL l n F T m = P.wantI 0 (P.moreL l F T (-m)))) = true) := are_yes (take_yes (f := F) (t := T) HCA.out his).1 (take_yes (f := F) (t := T) HCA.out his).2
              rw [(fits_most HCA.out (.inr hk1)).1, (fits_most HCA.out (.inr hk1)).2]
              go_wp2_with fail
              refine (moreOf_any _ _ l F T m _ (SlAt.below RInt.mono hl hB5) (by omega) (by omega) (by omega) HX.out (by omega)).mono ?_
              rintro e w6 ⟨v6, rfl, own6, hb6⟩
              rw [hok]
              obtain ⟨ao6, cap6, rfl, a6⟩ := OwnI.at own6
              clear own6
              have i0 := cellIn hb6 h0
              have i1 := cellIn hb6 h1
              have hB6 := bvia hB5 hb6
              go_wp2_with fail
              refine (moreOf_any _ _ l F T (-m) _ (SlAt.below RInt.mono hl hB6) (by omega) (by omega) (by omega) HX.out (by omega)).mono ?_
              rintro e w7 ⟨v7, rfl, own7, hb7⟩
              rw [his]
              obtain ⟨ao7, cap7, rfl, a7⟩ := OwnI.at own7
              clear own7
              have j0 := cellIn hb7 i0
              have j1 := cellIn hb7 i1
              have hB7 := bvia hB6 hb7
              go_wp2_with fail
              refine (peakOf_any _ _ l F T _ (SlAt.below RInt.mono hl hB7) (by omega) (by omega) (by omega) HX.out).mono ?_
              rintro e w8 ⟨p', a', rfl, hpk', hb8⟩
              obtain ⟨rfl, rfl⟩ := HPK.out.one hpk'
              have hB8 := bvia hB7 hb8
              have m68 := bvia hb7 hb8
              have q18 := bvia (bvia q15 hb6) m68
              have q28 := bvia (bvia q25 hb6) m68
              clear hpk' h0 h1 i0 i1 j0 j1 hB5 hB6 hB7 q15 q25 hb6 hb7

              go_wp2_with fail
              refine (countBegun_any _).mono ?_
              rintro e x1 ⟨rfl, k1⟩
              go_wp2_with fail
              refine (cntCheck_any _ _ l n _ (SlAt.below RInt.mono hl (bvia hB8 k1))).mono ?_
              rintro e x2 ⟨rfl, k2⟩
              go_wp2_with fail
              refine (refCount_any _ _ l n _ (SlAt.below RInt.mono hl (bvia (bvia hB8 k1) k2))).mono ?_
              rintro e x3 ⟨rfl, k3⟩
              have k13 := bvia (bvia k1 k2) k3
              go_wp2_with fail
              refine (intsAre_any _ _ _ _ (P.addCL l n F T m) (P.moreL l F T m) _ _ _ (SlAt.below RInt.mono a1 (bvia q18 k13)) (SlAt.below RInt.mono a6 (bvia m68 k13))).mono ?_
              rintro e x4 ⟨rfl, k4⟩
              rw [HT1.out]
              have k14 := bvia k13 k4
              go_wp2_with fail
              refine (intsAre_any _ _ _ _ (P.takeCL l n F T m) (P.moreL l F T (-m)) _ _ _ (SlAt.below RInt.mono a2 (bvia q28 k14)) (SlAt.below RInt.mono a7 (bvia hb8 k14))).mono ?_
              rintro e x5 ⟨rfl, k5⟩
              rw [HT2.out]
              go_wp2
              go_ret
              exact ⟨by simp, bvia (bvia hB8 k14) k5⟩
        · cases hok : P.okL (P.moreL l F T m)
          · cases his : P.okL (P.moreL l F T (-m))
            · have HT1 : Aside ((decide (P.addCE l n F T m = 2) && decide (P.addCL l n F T m = P.wantI 2 (P.moreL l F T m))) = true) := are_yes (add_yes (f := F) (t := T) HCA.out hok).1 (add_yes (f := F) (t := T) HCA.out hok).2
              have HT2 : Aside ((decide (P.takeCE l n F T m = 4) && decide (P.takeCL l n F T m = P.wantI 4 (P.moreL l F T (-m)))) = true) := are_yes (take_yes (f := F) (t := T) HCA.out his).1 (take_yes (f := F) (t := T) HCA.out his).2
              rw [fits_ok HCA.out hk0 hk1, fits_peak (fits_ok HCA.out hk0 hk1) HPK.out]
              go_wp2_with fail
              refine (moreOf_any _ _ l F T m _ (SlAt.below RInt.mono hl hB5) (by omega) (by omega) (by omega) HX.out (by omega)).mono ?_
              rintro e w6 ⟨v6, rfl, own6, hb6⟩
              rw [hok]
              obtain ⟨ao6, cap6, rfl, a6⟩ := OwnI.at own6
              clear own6
              have i0 := cellIn hb6 h0
              have i1 := cellIn hb6 h1
              have hB6 := bvia hB5 hb6
              go_wp2_with fail
              refine (moreOf_any _ _ l F T (-m) _ (SlAt.below RInt.mono hl hB6) (by omega) (by omega) (by omega) HX.out (by omega)).mono ?_
              rintro e w7 ⟨v7, rfl, own7, hb7⟩
              rw [his]
              obtain ⟨ao7, cap7, rfl, a7⟩ := OwnI.at own7
              clear own7
              have j0 := cellIn hb7 i0
              have j1 := cellIn hb7 i1
              have hB7 := bvia hB6 hb7
              go_wp2_with fail
              refine (peakOf_any _ _ l F T _ (SlAt.below RInt.mono hl hB7) (by omega) (by omega) (by omega) HX.out).mono ?_
              rintro e w8 ⟨p', a', rfl, hpk', hb8⟩
              obtain ⟨rfl, rfl⟩ := HPK.out.one hpk'
              have hB8 := bvia hB7 hb8
              have m68 := bvia hb7 hb8
              have q18 := bvia (bvia q15 hb6) m68
              have q28 := bvia (bvia q25 hb6) m68
              clear hpk' h0 h1 i0 i1 j0 j1 hB5 hB6 hB7 q15 q25 hb6 hb7

              go_wp2_with fail
              refine (countBegun_any _).mono ?_
              rintro e x1 ⟨rfl, k1⟩
              go_wp2_with fail
              refine (cntCheck_any _ _ l n _ (SlAt.below RInt.mono hl (bvia hB8 k1))).mono ?_
              rintro e x2 ⟨rfl, k2⟩
              go_wp2_with fail
              refine (refCount_any _ _ l n _ (SlAt.below RInt.mono hl (bvia (bvia hB8 k1) k2))).mono ?_
              rintro e x3 ⟨rfl, k3⟩
              have k13 := bvia (bvia k1 k2) k3
              go_wp2_with fail
              refine (intsAre_any _ _ _ _ (P.addCL l n F T m) (P.moreL l F T m) _ _ _ (SlAt.below RInt.mono a1 (bvia q18 k13)) (SlAt.below RInt.mono a6 (bvia m68 k13))).mono ?_
              rintro e x4 ⟨rfl, k4⟩
              rw [HT1.out]
              have k14 := bvia k13 k4
              go_wp2_with fail
              refine (intsAre_any _ _ _ _ (P.takeCL l n F T m) (P.moreL l F T (-m)) _ _ _ (SlAt.below RInt.mono a2 (bvia q28 k14)) (SlAt.below RInt.mono a7 (bvia hb8 k14))).mono ?_
              rintro e x5 ⟨rfl, k5⟩
              rw [HT2.out]
              go_wp2
              go_ret
              exact ⟨by simp, bvia (bvia hB8 k14) k5⟩
            · have HT1 : Aside ((decide (P.addCE l n F T m = 2) && decide (P.addCL l n F T m = P.wantI 2 (P.moreL l F T m))) = true) := are_yes (add_yes (f := F) (t := T) HCA.out hok).1 (add_yes (f := F) (t := T) HCA.out hok).2
              have HT2 : Aside ((decide (P.takeCE l n F T m = 0) && decide (P.takeCL l n F T m = P.wantI 0 (P.moreL l F T (-m)))) = true) := are_yes (take_yes (f := F) (t := T) HCA.out his).1 (take_yes (f := F) (t := T) HCA.out his).2
              rw [fits_ok HCA.out hk0 hk1, fits_peak (fits_ok HCA.out hk0 hk1) HPK.out]
              go_wp2_with fail
              refine (moreOf_any _ _ l F T m _ (SlAt.below RInt.mono hl hB5) (by omega) (by omega) (by omega) HX.out (by omega)).mono ?_
              rintro e w6 ⟨v6, rfl, own6, hb6⟩
              rw [hok]
              obtain ⟨ao6, cap6, rfl, a6⟩ := OwnI.at own6
              clear own6
              have i0 := cellIn hb6 h0
              have i1 := cellIn hb6 h1
              have hB6 := bvia hB5 hb6
              go_wp2_with fail
              refine (moreOf_any _ _ l F T (-m) _ (SlAt.below RInt.mono hl hB6) (by omega) (by omega) (by omega) HX.out (by omega)).mono ?_
              rintro e w7 ⟨v7, rfl, own7, hb7⟩
              rw [his]
              obtain ⟨ao7, cap7, rfl, a7⟩ := OwnI.at own7
              clear own7
              have j0 := cellIn hb7 i0
              have j1 := cellIn hb7 i1
              have hB7 := bvia hB6 hb7
              go_wp2_with fail
              refine (peakOf_any _ _ l F T _ (SlAt.below RInt.mono hl hB7) (by omega) (by omega) (by omega) HX.out).mono ?_
              rintro e w8 ⟨p', a', rfl, hpk', hb8⟩
              obtain ⟨rfl, rfl⟩ := HPK.out.one hpk'
              have hB8 := bvia hB7 hb8
              have m68 := bvia hb7 hb8
              have q18 := bvia (bvia q15 hb6) m68
              have q28 := bvia (bvia q25 hb6) m68
              clear hpk' h0 h1 i0 i1 j0 j1 hB5 hB6 hB7 q15 q25 hb6 hb7

              go_wp2_with fail
              refine (countBegun_any _).mono ?_
              rintro e x1 ⟨rfl, k1⟩
              go_wp2_with fail
              refine (cntCheck_any _ _ l n _ (SlAt.below RInt.mono hl (bvia hB8 k1))).mono ?_
              rintro e x2 ⟨rfl, k2⟩
              go_wp2_with fail
              refine (refCount_any _ _ l n _ (SlAt.below RInt.mono hl (bvia (bvia hB8 k1) k2))).mono ?_
              rintro e x3 ⟨rfl, k3⟩
              have k13 := bvia (bvia k1 k2) k3
              go_wp2_with fail
              refine (intsAre_any _ _ _ _ (P.addCL l n F T m) (P.moreL l F T m) _ _ _ (SlAt.below RInt.mono a1 (bvia q18 k13)) (SlAt.below RInt.mono a6 (bvia m68 k13))).mono ?_
              rintro e x4 ⟨rfl, k4⟩
              rw [HT1.out]
              have k14 := bvia k13 k4
              go_wp2_with fail
              refine (intsAre_any _ _ _ _ (P.takeCL l n F T m) (P.moreL l F T (-m)) _ _ _ (SlAt.below RInt.mono a2 (bvia q28 k14)) (SlAt.below RInt.mono a7 (bvia hb8 k14))).mono ?_
              rintro e x5 ⟨rfl, k5⟩
              rw [HT2.out]
              go_wp2
              go_ret
              exact ⟨by simp, bvia (bvia hB8 k14) k5⟩
          · cases his : P.okL (P.moreL l F T (-m))
            · have HT1 : Aside ((decide (P.addCE l n F T m = 0) && decide (P.addCL l n F T m = P.wantI 0 (P.moreL l F T m))) = true) := are_yes (add_yes (f := F) (t := T) HCA.out hok).1 (add_yes (f := F) (t := T) HCA.out hok).2
              have HT2 : Aside ((decide (P.takeCE l n F T m = 4) && decide (P.takeCL l n F T m = P.wantI 4 (P.moreL l F T (-m)))) = true) := are_yes (take_yes (f := F) (t := T) HCA.out his).1 (take_yes (f := F) (t := T) HCA.out his).2
              rw [fits_ok HCA.out hk0 hk1, fits_peak (fits_ok HCA.out hk0 hk1) HPK.out]
              go_wp2_with fail
              refine (moreOf_any _ _ l F T m _ (SlAt.below RInt.mono hl hB5) (by omega) (by omega) (by omega) HX.out (by omega)).mono ?_
              rintro e w6 ⟨v6, rfl, own6, hb6⟩
              rw [hok]
              obtain ⟨ao6, cap6, rfl, a6⟩ := OwnI.at own6
              clear own6
              have i0 := cellIn hb6 h0
              have i1 := cellIn hb6 h1
              have hB6 := bvia hB5 hb6
              go_wp2_with fail
              refine (moreOf_any _ _ l F T (-m) _ (SlAt.below RInt.mono hl hB6) (by omega) (by omega) (by omega) HX.out (by omega)).mono ?_
              rintro e w7 ⟨v7, rfl, own7, hb7⟩
              rw [his]
              obtain ⟨ao7, cap7, rfl, a7⟩ := OwnI.at own7
              clear own7
              have j0 := cellIn hb7 i0
              have j1 := cellIn hb7 i1
              have hB7 := bvia hB6 hb7
              go_wp2_with fail
              refine (peakOf_any _ _ l F T _ (SlAt.below RInt.mono hl hB7) (by omega) (by omega) (by omega) HX.out).mono ?_
              rintro e w8 ⟨p', a', rfl, hpk', hb8⟩
              obtain ⟨rfl, rfl⟩ := HPK.out.one hpk'
              have hB8 := bvia hB7 hb8
              have m68 := bvia hb7 hb8
              have q18 := bvia (bvia q15 hb6) m68
              have q28 := bvia (bvia q25 hb6) m68
              clear hpk' h0 h1 i0 i1 j0 j1 hB5 hB6 hB7 q15 q25 hb6 hb7

              go_wp2_with fail
              refine (countBegun_any _).mono ?_
              rintro e x1 ⟨rfl, k1⟩
              go_wp2_with fail
              refine (cntCheck_any _ _ l n _ (SlAt.below RInt.mono hl (bvia hB8 k1))).mono ?_
              rintro e x2 ⟨rfl, k2⟩
              go_wp2_with fail
              refine (refCount_any _ _ l n _ (SlAt.below RInt.mono hl (bvia (bvia hB8 k1) k2))).mono ?_
              rintro e x3 ⟨rfl, k3⟩
              have k13 := bvia (bvia k1 k2) k3
              go_wp2_with fail
              refine (intsAre_any _ _ _ _ (P.addCL l n F T m) (P.moreL l F T m) _ _ _ (SlAt.below RInt.mono a1 (bvia q18 k13)) (SlAt.below RInt.mono a6 (bvia m68 k13))).mono ?_
              rintro e x4 ⟨rfl, k4⟩
              rw [HT1.out]
              have k14 := bvia k13 k4
              go_wp2_with fail
              refine (intsAre_any _ _ _ _ (P.takeCL l n F T m) (P.moreL l F T (-m)) _ _ _ (SlAt.below RInt.mono a2 (bvia q28 k14)) (SlAt.below RInt.mono a7 (bvia hb8 k14))).mono ?_
              rintro e x5 ⟨rfl, k5⟩
              rw [HT2.out]
              go_wp2
              go_ret
              exact ⟨by simp, bvia (bvia hB8 k14) k5⟩
            · have HT1 : Aside ((decide (P.addCE l n F T m = 0) && decide (P.addCL l n F T m = P.wantI 0 (P.moreL l F T m))) = true) := are_yes (add_yes (f := F) (t := T) HCA.out hok).1 (add_yes (f := F) (t := T) HCA.out hok).2
              have HT2 : Aside ((decide (P.takeCE l n F T m = 0) && decide (P.takeCL l n F T m = P.wantI 0 (P.moreL l F T (-m)))) = true) := are_yes (take_yes (f := F) (t := T) HCA.out his).1 (take_yes (f := F) (t := T) HCA.out his).2
              rw [fits_ok HCA.out hk0 hk1, fits_peak (fits_ok HCA.out hk0 hk1) HPK.out]
              go_wp2_with fail
              refine (moreOf_any _ _ l F T m _ (SlAt.below RInt.mono hl hB5) (by omega) (by omega) (by omega) HX.out (by omega)).mono ?_
              rintro e w6 ⟨v6, rfl, own6, hb6⟩
              rw [hok]
              obtain ⟨ao6, cap6, rfl, a6⟩ := OwnI.at own6
              clear own6
              have i0 := cellIn hb6 h0
              have i1 := cellIn hb6 h1
              have hB6 := bvia hB5 hb6
              go_wp2_with fail
              refine (moreOf_any _ _ l F T (-m) _ (SlAt.below RInt.mono hl hB6) (by omega) (by omega) (by omega) HX.out (by omega)).mono ?_
              rintro e w7 ⟨v7, rfl, own7, hb7⟩
              rw [his]
              obtain ⟨ao7, cap7, rfl, a7⟩ := OwnI.at own7
              clear own7
              have j0 := cellIn hb7 i0
              have j1 := cellIn hb7 i1
              have hB7 := bvia hB6 hb7
              go_wp2_with fail
              refine (peakOf_any _ _ l F T _ (SlAt.below RInt.mono hl hB7) (by omega) (by omega) (by omega) HX.out).mono ?_
              rintro e w8 ⟨p', a', rfl, hpk', hb8⟩
              obtain ⟨rfl, rfl⟩ := HPK.out.one hpk'
              have hB8 := bvia hB7 hb8
              have m68 := bvia hb7 hb8
              have q18 := bvia (bvia q15 hb6) m68
              have q28 := bvia (bvia q25 hb6) m68
              clear hpk' h0 h1 i0 i1 j0 j1 hB5 hB6 hB7 q15 q25 hb6 hb7

              go_wp2_with fail
              refine (countBegun_any _).mono ?_
              rintro e x1 ⟨rfl, k1⟩
              go_wp2_with fail
              refine (cntCheck_any _ _ l n _ (SlAt.below RInt.mono hl (bvia hB8 k1))).mono ?_
              rintro e x2 ⟨rfl, k2⟩
              go_wp2_with fail
              refine (refCount_any _ _ l n _ (SlAt.below RInt.mono hl (bvia (bvia hB8 k1) k2))).mono ?_
              rintro e x3 ⟨rfl, k3⟩
              have k13 := bvia (bvia k1 k2) k3
              go_wp2_with fail
              refine (intsAre_any _ _ _ _ (P.addCL l n F T m) (P.moreL l F T m) _ _ _ (SlAt.below RInt.mono a1 (bvia q18 k13)) (SlAt.below RInt.mono a6 (bvia m68 k13))).mono ?_
              rintro e x4 ⟨rfl, k4⟩
              rw [HT1.out]
              have k14 := bvia k13 k4
              go_wp2_with fail
              refine (intsAre_any _ _ _ _ (P.takeCL l n F T m) (P.moreL l F T (-m)) _ _ _ (SlAt.below RInt.mono a2 (bvia q28 k14)) (SlAt.below RInt.mono a7 (bvia hb8 k14))).mono ?_
              rintro e x5 ⟨rfl, k5⟩
              rw [HT2.out]
              go_wp2
              go_ret
              exact ⟨by simp, bvia (bvia hB8 k14) k5⟩
    · have h3 : P.cntA l n F T m = 3 := by
        rw [P.cntA, if_pos HCB.out]
        rw [P.cntA, if_pos HCB.out] at hca
        split at hca
        · exact absurd rfl hca
        · rw [if_neg (by assumption)]
      have hA := add_bad hca
      have hT := take_bad hca
      have hF := fits_bad (k := k) hca
      rw [h3] at hA hT hF
      rw [h3, hF.1, hF.2]
      have HA : Aside _ := hA
      have HT : Aside _ := hT
      clear h3 hca hA hT hF
      go_wp2_with fail
      refine (peakOf_any _ _ l F T _ (SlAt.below RInt.mono hl hB5) (by omega) (by omega) (by omega) HX.out).mono ?_
      rintro e w8 ⟨p', a', rfl, hpk', hb8⟩
      obtain ⟨rfl, rfl⟩ := HPK.out.one hpk'
      have hB8 := bvia hB5 hb8
      have q18 := bvia q15 hb8
      have q28 := bvia q25 hb8
      clear hpk' h0 h1 hB5 q15 q25 hb8
      go_wp2_with fail
      refine (countBegun_any _).mono ?_
      rintro e x1 ⟨rfl, k1⟩
      go_wp2_with fail
      refine (cntCheck_any _ _ l n _ (SlAt.below RInt.mono hl (bvia hB8 k1))).mono ?_
      rintro e x2 ⟨rfl, k2⟩
      go_wp2_with fail
      refine (refCount_any _ _ l n _ (SlAt.below RInt.mono hl (bvia (bvia hB8 k1) k2))).mono ?_
      rintro e x3 ⟨rfl, k3⟩
      have k13 := bvia (bvia k1 k2) k3
      go_wp2_with fail
      refine (intsAre_any _ _ _ _ (P.addCL l n F T m) [] _ _ _ (SlAt.below RInt.mono a1 (bvia q18 k13)) (HN _)).mono ?_
      rintro e x4 ⟨rfl, k4⟩
      rw [are_yes HA.out.1 HA.out.2]
      have k14 := bvia k13 k4
      go_wp2_with fail
      refine (intsAre_any _ _ _ _ (P.takeCL l n F T m) [] _ _ _ (SlAt.below RInt.mono a2 (bvia q28 k14)) (HN _)).mono ?_
      rintro e x5 ⟨rfl, k5⟩
      rw [are_yes HT.out.1 HT.out.2]
      go_wp2
      go_ret
      exact ⟨by simp, bvia (bvia hB8 k14) k5⟩
  · have hca : P.cntA l n f t m ≠ 0 := by rw [cntA_bad hcb]; exact hcb
    have hA := add_bad hca
    have hT := take_bad hca
    have hF := fits_bad (k := k) hca
    obtain ⟨rfl, rfl⟩ := HP.out.1 hcb
    rw [hF.1, hF.2]
    rw [cntA_bad hcb] at hA hT ⊢
    have hz : (P.cntB l n f t == 0) = false := by simpa using hcb
    have HZ : Aside (P.cntB l n f t ≠ 0) := hcb
    have HA : Aside _ := hA
    have HT : Aside _ := hT
    clear hcb hca hA hT hF HP
    go_wp2_with fail
    refine (countBegun_any _).mono ?_
    rintro e x1 ⟨rfl, k1⟩
    go_wp2_with fail
    refine (cntCheck_any _ _ l n _ (SlAt.below RInt.mono hl (bvia hB5 k1))).mono ?_
    rintro e x2 ⟨rfl, k2⟩
    go_wp2_with fail
    refine (refCount_any _ _ l n _ (SlAt.below RInt.mono hl (bvia (bvia hB5 k1) k2))).mono ?_
    rintro e x3 ⟨rfl, k3⟩
    have k13 := bvia (bvia k1 k2) k3
    go_wp2_with fail
    refine (intsAre_any _ _ _ _ (P.addCL l n f t m) [] _ _ _ (SlAt.below RInt.mono a1 (bvia q15 k13)) (HN _)).mono ?_
    rintro e x4 ⟨rfl, k4⟩
    rw [are_yes HA.out.1 (by rw [HA.out.2, P.wantI, if_neg HZ.out])]
    have k14 := bvia k13 k4
    go_wp2_with fail
    refine (intsAre_any _ _ _ _ (P.takeCL l n f t m) [] _ _ _ (SlAt.below RInt.mono a2 (bvia q25 k14)) (HN _)).mono ?_
    rintro e x5 ⟨rfl, k5⟩
    rw [are_yes HT.out.1 (by rw [HT.out.2, P.wantI, if_neg HZ.out])]
    go_wp2
    go_ret
    exact ⟨by simp, bvia (bvia hB5 k14) k5⟩

end Go.Proofs.Ytcifdkggigfnlab
