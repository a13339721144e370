/- The walk of the law SpanTells. -/
import Derived.Test.YtnadhpemmehedaaSpanQ
import Derived.Deep.RegionWith
namespace Go.Proofs.Ytnadhpemmehedaa
open Go.RowKit
set_option linter.unusedSimpArgs false
set_option linter.unusedVariables false

theorem SpAt.nilOf (w : World) : SpAt w Option.none 0 [] := ⟨by simp, by simp [maxLen], fun _ => rfl, fun h => by simp at h⟩

/-- An answer beside an errno that is not OK is empty. -/
theorem addL_bad {l : List (Int × Int)} {n f t : Int} (h : P.addE l n f t ≠ 0) : P.addL l n f t = [] := by rw [P.addL, if_neg h]
theorem takeL_bad {l : List (Int × Int)} {n f t : Int} (h : P.takeE l n f t ≠ 0) : P.takeL l n f t = [] := by rw [P.takeL, if_neg h]
theorem side_if {e : Int} {a b : List (Int × Int)} (h1 : e = 0 → a = b) (h2 : e ≠ 0 → a = []) : a = if e = 0 then b else [] := by
  by_cases h : e = 0
  · rw [if_pos h]; exact h1 h
  · rw [if_neg h]; exact h2 h
theorem free_bad {l : List (Int × Int)} {n : Int} (h : P.calendar l n ≠ 0) : P.free l n = [] := by rw [P.free, if_neg h]
set_option maxHeartbeats 8000000 in
theorem spanTells_11 (ao : Option Addr) (cap : Nat) (l : List (Int × Int)) (n f t f' t' : Int) (w : World) (hl : SpAt w ao cap l) (c1 : (P.chk f t 7 == 0) = false) (d1 : (P.calendar l n == 0) = false) :
    Calls Try.prog 3 #[.slice ao l.length cap, .int .i64 n, .agg #[.int .i64 f, .int .i64 t], .agg #[.int .i64 f', .int .i64 t']] w fun e w' => e = .returned (.bool true) ∧ Below w.heap.size w w' := by
  have HM : Aside (P.meets f t f' t' = P.chk f t 7) := by show _ = _; rw [P.meets, if_neg (by simpa using c1)]
  have HO : Aside ((decide (P.meets f t f' t' = 0) && P.meet f t f' t') = false) := by show _ = _; have h := HM.out; rw [h, decide_eq_false (by simpa using c1)]; rfl
  have EA : Aside (P.addE l n f t = P.calendar l n) := by
    show _ = _
    have h : P.both l n f t = P.calendar l n := by rw [P.both, if_neg (by simpa using d1)]
    rw [P.addE, if_neg (by rw [h]; simpa using d1), h]
  have ET : Aside (P.takeE l n f t = P.calendar l n) := by
    show _ = _
    have h : P.both l n f t = P.calendar l n := by rw [P.both, if_neg (by simpa using d1)]
    rw [P.takeE, if_neg (by rw [h]; simpa using d1), h]
  have HC : Aside (P.calendar l n ≠ 0) := by show _ ≠ _; simpa using d1
  go_enter Try.func3, Try.ntmps3
  go_wp2_with fail
  refine (meets_any _ _ _ _ _).mono ?_
  rintro e w1 ⟨rfl, hb1⟩
  rw [HO.out, HM.out]
  have hx0 : BoxAt (((w.alloc (.cells #[.int .i64 f, .int .i64 t] 24))).alloc (.cells #[.int .i64 f', .int .i64 t'] 24)) w.heap.size f t := (BoxAt.new w f t).below (by go_grown)
  have hy0 : BoxAt (((w.alloc (.cells #[.int .i64 f, .int .i64 t] 24))).alloc (.cells #[.int .i64 f', .int .i64 t'] 24)) (w.heap.size + 1) f' t' := by
    have := BoxAt.new (w.alloc (.cells #[.int .i64 f, .int .i64 t] 24)) f' t'
    simpa using this
  have hx := hx0.below hb1
  have hy := hy0.below hb1
  have hw : Below w.heap.size w w1 := bvia (by go_grown) hb1
  clear hx0 hy0 hb1
  go_wp2_with fail
  refine (free_any _ _ l _ _ (hl.below hw)).mono ?_
  rintro e w2 ⟨v2, rfl, hown2, hb2⟩
  replace hx := hx.below hb2
  replace hy := hy.below hb2
  replace hw := bvia hw hb2
  obtain ⟨ao2, cap2, rfl, aF⟩ := Own.at hown2
  clear hown2 hb2
  obtain ⟨_, hx2b, hx2c⟩ := id hx
  go_wp2_with fail
  refine (add_any _ _ l _ _ _ _ (hl.below hw)).mono ?_
  rintro e w3 ⟨v3, rfl, hown3, hb3⟩
  rw [EA.out]
  replace hx := hx.below hb3
  replace hy := hy.below hb3
  replace hw := bvia hw hb3
  replace aF := aF.below hb3
  obtain ⟨ao3, cap3, rfl, aA⟩ := Own.at hown3
  clear hown3 hb3 hx2b hx2c
  obtain ⟨_, hx3b, hx3c⟩ := id hx
  go_wp2_with fail
  refine (take_any _ _ l _ _ _ _ (hl.below hw)).mono ?_
  rintro e w4 ⟨v4, rfl, hown4, hb4⟩
  rw [ET.out]
  replace hx := hx.below hb4
  replace hy := hy.below hb4
  replace hw := bvia hw hb4
  replace aF := aF.below hb4
  replace aA := aA.below hb4
  obtain ⟨ao4, cap4, rfl, aT⟩ := Own.at hown4
  clear hown4 hb4 hx3b hx3c
  obtain ⟨_, hx4b, hx4c⟩ := id hx
  go_wp2_with fail
  refine (checkSpan_any _ _ _ _).mono ?_
  rintro e w5 ⟨rfl, hb5⟩
  replace hx := hx.below hb5
  replace hy := hy.below hb5
  replace hw := bvia hw hb5
  replace aF := aF.below hb5
  replace aA := aA.below hb5
  replace aT := aT.below hb5
  clear hb5 hx4b hx4c
  obtain ⟨_, hx5b, hx5c⟩ := id hx
  obtain ⟨_, hy5b, hy5c⟩ := id hy
  go_wp2_with fail
  refine (refCalendar_any _ _ _ _ _ (hl.below hw)).mono ?_
  rintro e w6 ⟨rfl, hb6⟩
  replace hx := hx.below hb6
  replace hy := hy.below hb6
  replace hw := bvia hw hb6
  replace aF := aF.below hb6
  replace aA := aA.below hb6
  replace aT := aT.below hb6
  clear hb6 hx5b hx5c hy5b hy5c
  obtain ⟨_, hx6b, hx6c⟩ := id hx
  obtain ⟨_, hy6b, hy6c⟩ := id hy
  go_wp2_with fail
  have HF : Aside (P.free l n = if P.calendar l n = 0 then [] else []) := side_if (fun h => absurd h HC.out) free_bad
  have HA : Aside (P.addL l n f t = if P.calendar l n = 0 then [] else []) := side_if (fun h => absurd h HC.out) (fun h => addL_bad (by rw [EA.out]; exact h))
  have HT : Aside (P.takeL l n f t = if P.calendar l n = 0 then [] else []) := side_if (fun h => absurd h HC.out) (fun h => takeL_bad (by rw [ET.out]; exact h))
  have r0 := cell_regrown hx6b
  have r1 := cell_regrown hx6c
  have r2 := cell_regrown hy6b
  have r3 := cell_regrown hy6c
  refine wp_region_quiet_below (by kernel_rfl) (by kernel_rfl) ?_
  repeat (quiet_step (first
    | (go_at_call 18; exact Calls.regrown_of (spanBegun_any _))
    | (go_at_call 19; exact Calls.regrown_of (check_any _ _ _ _))
    | (go_at_call 13; exact Calls.regrown_of (checkSpan_any _ _ _ _))
    | (go_at_call_of 21 ao2; exact Calls.regrown_of (spansAre_any _ _ _ _ (P.free l n) [] (P.calendar l n) _ (aF.below (below_regrown _ _ _)) (SpAt.nilOf _) HF.out))
    | (go_at_call_of 21 ao3; exact Calls.regrown_of (spansAre_any _ _ _ _ (P.addL l n f t) [] _ _ (aA.below (below_regrown _ _ _)) (SpAt.nilOf _) HA.out))
    | (go_at_call_of 21 ao4; exact Calls.regrown_of (spansAre_any _ _ _ _ (P.takeL l n f t) [] _ _ (aT.below (below_regrown _ _ _)) (SpAt.nilOf _) HT.out))))
  refine wpQuiet_nil ?_
  intro wz hwz
  obtain ⟨⟨dq, osq⟩, hwz⟩ := hwz
  have hbz := below_regrown w6 dq osq
  rw [← hwz] at hbz
  clear hwz
  go_wp2
  go_ret
  exact ⟨by simp, bvia hw hbz⟩

set_option maxHeartbeats 8000000 in
theorem spanTells_12 (ao : Option Addr) (cap : Nat) (l : List (Int × Int)) (n f t f' t' : Int) (w : World) (hl : SpAt w ao cap l) (c1 : (P.chk f t 7 == 0) = false) (d1 : (P.calendar l n == 0) = true) (d2 : (P.chk f t n == 0) = false) :
    Calls Try.prog 3 #[.slice ao l.length cap, .int .i64 n, .agg #[.int .i64 f, .int .i64 t], .agg #[.int .i64 f', .int .i64 t']] w fun e w' => e = .returned (.bool true) ∧ Below w.heap.size w w' := by
  have HM : Aside (P.meets f t f' t' = P.chk f t 7) := by show _ = _; rw [P.meets, if_neg (by simpa using c1)]
  have HO : Aside ((decide (P.meets f t f' t' = 0) && P.meet f t f' t') = false) := by show _ = _; have h := HM.out; rw [h, decide_eq_false (by simpa using c1)]; rfl
  have EA : Aside (P.addE l n f t = P.chk f t n) := by
    show _ = _
    have h : P.both l n f t = P.chk f t n := by rw [P.both, if_pos (by simpa using d1)]
    rw [P.addE, if_neg (by rw [h]; simpa using d2), h]
  have ET : Aside (P.takeE l n f t = P.chk f t n) := by
    show _ = _
    have h : P.both l n f t = P.chk f t n := by rw [P.both, if_pos (by simpa using d1)]
    rw [P.takeE, if_neg (by rw [h]; simpa using d2), h]
  have HC : Aside (P.calendar l n = 0) := by show _ = _; simpa using d1
  have HK : Aside (P.chk f t n ≠ 0) := by show _ ≠ _; simpa using d2
  go_enter Try.func3, Try.ntmps3
  go_wp2_with fail
  refine (meets_any _ _ _ _ _).mono ?_
  rintro e w1 ⟨rfl, hb1⟩
  rw [HO.out, HM.out]
  have hx0 : BoxAt (((w.alloc (.cells #[.int .i64 f, .int .i64 t] 24))).alloc (.cells #[.int .i64 f', .int .i64 t'] 24)) w.heap.size f t := (BoxAt.new w f t).below (by go_grown)
  have hy0 : BoxAt (((w.alloc (.cells #[.int .i64 f, .int .i64 t] 24))).alloc (.cells #[.int .i64 f', .int .i64 t'] 24)) (w.heap.size + 1) f' t' := by
    have := BoxAt.new (w.alloc (.cells #[.int .i64 f, .int .i64 t] 24)) f' t'
    simpa using this
  have hx := hx0.below hb1
  have hy := hy0.below hb1
  have hw : Below w.heap.size w w1 := bvia (by go_grown) hb1
  clear hx0 hy0 hb1
  go_wp2_with fail
  refine (free_any _ _ l _ _ (hl.below hw)).mono ?_
  rintro e w2 ⟨v2, rfl, hown2, hb2⟩
  replace hx := hx.below hb2
  replace hy := hy.below hb2
  replace hw := bvia hw hb2
  obtain ⟨ao2, cap2, rfl, aF⟩ := Own.at hown2
  clear hown2 hb2
  obtain ⟨_, hx2b, hx2c⟩ := id hx
  go_wp2_with fail
  refine (add_any _ _ l _ _ _ _ (hl.below hw)).mono ?_
  rintro e w3 ⟨v3, rfl, hown3, hb3⟩
  rw [EA.out]
  replace hx := hx.below hb3
  replace hy := hy.below hb3
  replace hw := bvia hw hb3
  replace aF := aF.below hb3
  obtain ⟨ao3, cap3, rfl, aA⟩ := Own.at hown3
  clear hown3 hb3 hx2b hx2c
  obtain ⟨_, hx3b, hx3c⟩ := id hx
  go_wp2_with fail
  refine (take_any _ _ l _ _ _ _ (hl.below hw)).mono ?_
  rintro e w4 ⟨v4, rfl, hown4, hb4⟩
  rw [ET.out]
  replace hx := hx.below hb4
  replace hy := hy.below hb4
  replace hw := bvia hw hb4
  replace aF := aF.below hb4
  replace aA := aA.below hb4
  obtain ⟨ao4, cap4, rfl, aT⟩ := Own.at hown4
  clear hown4 hb4 hx3b hx3c
  obtain ⟨_, hx4b, hx4c⟩ := id hx
  go_wp2_with fail
  refine (checkSpan_any _ _ _ _).mono ?_
  rintro e w5 ⟨rfl, hb5⟩
  replace hx := hx.below hb5
  replace hy := hy.below hb5
  replace hw := bvia hw hb5
  replace aF := aF.below hb5
  replace aA := aA.below hb5
  replace aT := aT.below hb5
  clear hb5 hx4b hx4c
  obtain ⟨_, hx5b, hx5c⟩ := id hx
  obtain ⟨_, hy5b, hy5c⟩ := id hy
  go_wp2_with fail
  refine (refCalendar_any _ _ _ _ _ (hl.below hw)).mono ?_
  rintro e w6 ⟨rfl, hb6⟩
  replace hx := hx.below hb6
  replace hy := hy.below hb6
  replace hw := bvia hw hb6
  replace aF := aF.below hb6
  replace aA := aA.below hb6
  replace aT := aT.below hb6
  clear hb6 hx5b hx5c hy5b hy5c
  obtain ⟨_, hx6b, hx6c⟩ := id hx
  obtain ⟨_, hy6b, hy6c⟩ := id hy
  go_wp2_with fail
  refine (checkSpan_any _ _ _ _).mono ?_
  rintro e w7 ⟨rfl, hb7⟩
  replace hx := hx.below hb7
  replace hy := hy.below hb7
  replace hw := bvia hw hb7
  replace aF := aF.below hb7
  replace aA := aA.below hb7
  replace aT := aT.below hb7
  clear hb7 hx6b hx6c hy6b hy6c
  obtain ⟨_, hx7b, hx7c⟩ := id hx
  obtain ⟨_, hy7b, hy7c⟩ := id hy
  go_wp2_with fail
  refine (freeOf_any _ _ l _ _ (hl.below hw) HC.out).mono ?_
  rintro e w8 ⟨v8, rfl, hown8, hb8⟩
  replace hx := hx.below hb8
  replace hy := hy.below hb8
  replace hw := bvia hw hb8
  replace aF := aF.below hb8
  replace aA := aA.below hb8
  replace aT := aT.below hb8
  obtain ⟨ao8, cap8, rfl, bF⟩ := Own.at hown8
  clear hb8 hx7b hx7c hy7b hy7c
  obtain ⟨_, hx8b, hx8c⟩ := id hx
  obtain ⟨_, hy8b, hy8c⟩ := id hy
  go_wp2_with fail
  have HF : Aside (P.free l n = if P.calendar l n = 0 then (P.free l n) else []) := side_if (fun _ => rfl) free_bad
  have HA : Aside (P.addL l n f t = if P.chk f t n = 0 then [] else []) := side_if (fun h => absurd h HK.out) (fun h => addL_bad (by rw [EA.out]; exact h))
  have HT : Aside (P.takeL l n f t = if P.chk f t n = 0 then [] else []) := side_if (fun h => absurd h HK.out) (fun h => takeL_bad (by rw [ET.out]; exact h))
  have r0 := cell_regrown hx8b
  have r1 := cell_regrown hx8c
  have r2 := cell_regrown hy8b
  have r3 := cell_regrown hy8c
  refine wp_region_quiet_below (by kernel_rfl) (by kernel_rfl) ?_
  repeat (quiet_step (first
    | (go_at_call 18; exact Calls.regrown_of (spanBegun_any _))
    | (go_at_call 19; exact Calls.regrown_of (check_any _ _ _ _))
    | (go_at_call 13; exact Calls.regrown_of (checkSpan_any _ _ _ _))
    | (go_at_call_of 21 ao2; exact Calls.regrown_of (spansAre_any _ _ _ _ (P.free l n) (P.free l n) (P.calendar l n) _ (aF.below (below_regrown _ _ _)) (bF.below (below_regrown _ _ _)) HF.out))
    | (go_at_call_of 21 ao3; exact Calls.regrown_of (spansAre_any _ _ _ _ (P.addL l n f t) [] _ _ (aA.below (below_regrown _ _ _)) (SpAt.nilOf _) HA.out))
    | (go_at_call_of 21 ao4; exact Calls.regrown_of (spansAre_any _ _ _ _ (P.takeL l n f t) [] _ _ (aT.below (below_regrown _ _ _)) (SpAt.nilOf _) HT.out))))
  refine wpQuiet_nil ?_
  intro wz hwz
  obtain ⟨⟨dq, osq⟩, hwz⟩ := hwz
  have hbz := below_regrown w8 dq osq
  rw [← hwz] at hbz
  clear hwz
  go_wp2
  go_ret
  exact ⟨by simp, bvia hw hbz⟩

set_option maxHeartbeats 8000000 in
theorem spanTells_13 (ao : Option Addr) (cap : Nat) (l : List (Int × Int)) (n f t f' t' : Int) (w : World) (hl : SpAt w ao cap l) (c1 : (P.chk f t 7 == 0) = false) (d1 : (P.calendar l n == 0) = true) (d2 : (P.chk f t n == 0) = true) :
    Calls Try.prog 3 #[.slice ao l.length cap, .int .i64 n, .agg #[.int .i64 f, .int .i64 t], .agg #[.int .i64 f', .int .i64 t']] w fun e w' => e = .returned (.bool true) ∧ Below w.heap.size w w' := by
  have HM : Aside (P.meets f t f' t' = P.chk f t 7) := by show _ = _; rw [P.meets, if_neg (by simpa using c1)]
  have HO : Aside ((decide (P.meets f t f' t' = 0) && P.meet f t f' t') = false) := by show _ = _; have h := HM.out; rw [h, decide_eq_false (by simpa using c1)]; rfl
  have EA : Aside (P.addE l n f t = P.refAddE l f t) := by
    show _ = _
    exact (refAdd (by rw [P.both, if_pos (by simpa using d1)]; simpa using d2)).1.symm
  have ET : Aside (P.takeE l n f t = P.refTakeE l f t) := by
    show _ = _
    exact (refTake (by rw [P.both, if_pos (by simpa using d1)]; simpa using d2)).1.symm
  have HC : Aside (P.calendar l n = 0) := by show _ = _; simpa using d1
  have HK : Aside (P.chk f t n = 0) := by show _ = _; simpa using d2
  have h7 := (calendar_len HC.out).1
  have HAL : Aside (P.refAddL l f t = P.addL l n f t) := (refAdd (by rw [P.both, if_pos HC.out]; exact HK.out)).2
  have HTL : Aside (P.refTakeL l f t = P.takeL l n f t) := (refTake (by rw [P.both, if_pos HC.out]; exact HK.out)).2
  go_enter Try.func3, Try.ntmps3
  go_wp2_with fail
  refine (meets_any _ _ _ _ _).mono ?_
  rintro e w1 ⟨rfl, hb1⟩
  rw [HO.out, HM.out]
  have hx0 : BoxAt (((w.alloc (.cells #[.int .i64 f, .int .i64 t] 24))).alloc (.cells #[.int .i64 f', .int .i64 t'] 24)) w.heap.size f t := (BoxAt.new w f t).below (by go_grown)
  have hy0 : BoxAt (((w.alloc (.cells #[.int .i64 f, .int .i64 t] 24))).alloc (.cells #[.int .i64 f', .int .i64 t'] 24)) (w.heap.size + 1) f' t' := by
    have := BoxAt.new (w.alloc (.cells #[.int .i64 f, .int .i64 t] 24)) f' t'
    simpa using this
  have hx := hx0.below hb1
  have hy := hy0.below hb1
  have hw : Below w.heap.size w w1 := bvia (by go_grown) hb1
  clear hx0 hy0 hb1
  go_wp2_with fail
  refine (free_any _ _ l _ _ (hl.below hw)).mono ?_
  rintro e w2 ⟨v2, rfl, hown2, hb2⟩
  replace hx := hx.below hb2
  replace hy := hy.below hb2
  replace hw := bvia hw hb2
  obtain ⟨ao2, cap2, rfl, aF⟩ := Own.at hown2
  clear hown2 hb2
  obtain ⟨_, hx2b, hx2c⟩ := id hx
  go_wp2_with fail
  refine (add_any _ _ l _ _ _ _ (hl.below hw)).mono ?_
  rintro e w3 ⟨v3, rfl, hown3, hb3⟩
  rw [EA.out]
  replace hx := hx.below hb3
  replace hy := hy.below hb3
  replace hw := bvia hw hb3
  replace aF := aF.below hb3
  obtain ⟨ao3, cap3, rfl, aA⟩ := Own.at hown3
  clear hown3 hb3 hx2b hx2c
  obtain ⟨_, hx3b, hx3c⟩ := id hx
  go_wp2_with fail
  refine (take_any _ _ l _ _ _ _ (hl.below hw)).mono ?_
  rintro e w4 ⟨v4, rfl, hown4, hb4⟩
  rw [ET.out]
  replace hx := hx.below hb4
  replace hy := hy.below hb4
  replace hw := bvia hw hb4
  replace aF := aF.below hb4
  replace aA := aA.below hb4
  obtain ⟨ao4, cap4, rfl, aT⟩ := Own.at hown4
  clear hown4 hb4 hx3b hx3c
  obtain ⟨_, hx4b, hx4c⟩ := id hx
  go_wp2_with fail
  refine (checkSpan_any _ _ _ _).mono ?_
  rintro e w5 ⟨rfl, hb5⟩
  replace hx := hx.below hb5
  replace hy := hy.below hb5
  replace hw := bvia hw hb5
  replace aF := aF.below hb5
  replace aA := aA.below hb5
  replace aT := aT.below hb5
  clear hb5 hx4b hx4c
  obtain ⟨_, hx5b, hx5c⟩ := id hx
  obtain ⟨_, hy5b, hy5c⟩ := id hy
  go_wp2_with fail
  refine (refCalendar_any _ _ _ _ _ (hl.below hw)).mono ?_
  rintro e w6 ⟨rfl, hb6⟩
  replace hx := hx.below hb6
  replace hy := hy.below hb6
  replace hw := bvia hw hb6
  replace aF := aF.below hb6
  replace aA := aA.below hb6
  replace aT := aT.below hb6
  clear hb6 hx5b hx5c hy5b hy5c
  obtain ⟨_, hx6b, hx6c⟩ := id hx
  obtain ⟨_, hy6b, hy6c⟩ := id hy
  go_wp2_with fail
  refine (checkSpan_any _ _ _ _).mono ?_
  rintro e w7 ⟨rfl, hb7⟩
  replace hx := hx.below hb7
  replace hy := hy.below hb7
  replace hw := bvia hw hb7
  replace aF := aF.below hb7
  replace aA := aA.below hb7
  replace aT := aT.below hb7
  clear hb7 hx6b hx6c hy6b hy6c
  obtain ⟨_, hx7b, hx7c⟩ := id hx
  obtain ⟨_, hy7b, hy7c⟩ := id hy
  go_wp2_with fail
  refine (freeOf_any _ _ l _ _ (hl.below hw) HC.out).mono ?_
  rintro e w8 ⟨v8, rfl, hown8, hb8⟩
  replace hx := hx.below hb8
  replace hy := hy.below hb8
  replace hw := bvia hw hb8
  replace aF := aF.below hb8
  replace aA := aA.below hb8
  replace aT := aT.below hb8
  obtain ⟨ao8, cap8, rfl, bF⟩ := Own.at hown8
  clear hb8 hx7b hx7c hy7b hy7c
  obtain ⟨_, hx8b, hx8c⟩ := id hx
  obtain ⟨_, hy8b, hy8c⟩ := id hy
  go_wp2_with fail
  refine (addSpan_any _ _ l n _ _ _ (hl.below hw) HC.out HK.out).mono ?_
  rintro e w9 ⟨v9, rfl, hown9, hb9⟩
  replace hx := hx.below hb9
  replace hy := hy.below hb9
  replace hw := bvia hw hb9
  replace aF := aF.below hb9
  replace aA := aA.below hb9
  replace aT := aT.below hb9
  replace bF := bF.below hb9
  obtain ⟨ao9, cap9, rfl, bA⟩ := Own.at hown9
  clear hb9 hx8b hx8c hy8b hy8c
  obtain ⟨_, hx9b, hx9c⟩ := id hx
  obtain ⟨_, hy9b, hy9c⟩ := id hy
  go_wp2_with fail
  refine (takeSpan_any _ _ l _ _ _ (hl.below hw) h7).mono ?_
  rintro e w10 ⟨v10, rfl, hown10, hb10⟩
  replace hx := hx.below hb10
  replace hy := hy.below hb10
  replace hw := bvia hw hb10
  replace aF := aF.below hb10
  replace aA := aA.below hb10
  replace aT := aT.below hb10
  replace bF := bF.below hb10
  replace bA := bA.below hb10
  obtain ⟨ao10, cap10, rfl, bT⟩ := Own.at hown10
  clear hb10 hx9b hx9c hy9b hy9c
  obtain ⟨_, hx10b, hx10c⟩ := id hx
  obtain ⟨_, hy10b, hy10c⟩ := id hy
  go_wp2_with fail
  have HF : Aside (P.free l n = if P.calendar l n = 0 then (P.free l n) else []) := side_if (fun _ => rfl) free_bad
  have HA : Aside (P.addL l n f t = if P.refAddE l f t = 0 then (P.refAddL l f t) else []) := side_if (fun _ => HAL.out.symm) (fun h => addL_bad (by rw [EA.out]; exact h))
  have HT : Aside (P.takeL l n f t = if P.refTakeE l f t = 0 then (P.refTakeL l f t) else []) := side_if (fun _ => HTL.out.symm) (fun h => takeL_bad (by rw [ET.out]; exact h))
  have r0 := cell_regrown hx10b
  have r1 := cell_regrown hx10c
  have r2 := cell_regrown hy10b
  have r3 := cell_regrown hy10c
  refine wp_region_quiet_below (by kernel_rfl) (by kernel_rfl) ?_
  repeat (quiet_step (first
    | (go_at_call 18; exact Calls.regrown_of (spanBegun_any _))
    | (go_at_call 19; exact Calls.regrown_of (check_any _ _ _ _))
    | (go_at_call 13; exact Calls.regrown_of (checkSpan_any _ _ _ _))
    | (go_at_call_of 21 ao2; exact Calls.regrown_of (spansAre_any _ _ _ _ (P.free l n) (P.free l n) (P.calendar l n) _ (aF.below (below_regrown _ _ _)) (bF.below (below_regrown _ _ _)) HF.out))
    | (go_at_call_of 21 ao3; exact Calls.regrown_of (spansAre_any _ _ _ _ (P.addL l n f t) (P.refAddL l f t) _ _ (aA.below (below_regrown _ _ _)) (bA.below (below_regrown _ _ _)) HA.out))
    | (go_at_call_of 21 ao4; exact Calls.regrown_of (spansAre_any _ _ _ _ (P.takeL l n f t) (P.refTakeL l f t) _ _ (aT.below (below_regrown _ _ _)) (bT.below (below_regrown _ _ _)) HT.out))))
  refine wpQuiet_nil ?_
  intro wz hwz
  obtain ⟨⟨dq, osq⟩, hwz⟩ := hwz
  have hbz := below_regrown w10 dq osq
  rw [← hwz] at hbz
  clear hwz
  go_wp2
  go_ret
  exact ⟨by simp, bvia hw hbz⟩

set_option maxHeartbeats 8000000 in
theorem spanTells_21 (ao : Option Addr) (cap : Nat) (l : List (Int × Int)) (n f t f' t' : Int) (w : World) (hl : SpAt w ao cap l) (c1 : (P.chk f t 7 == 0) = true) (c2 : (P.chk f' t' 7 == 0) = false) (d1 : (P.calendar l n == 0) = false) :
    Calls Try.prog 3 #[.slice ao l.length cap, .int .i64 n, .agg #[.int .i64 f, .int .i64 t], .agg #[.int .i64 f', .int .i64 t']] w fun e w' => e = .returned (.bool true) ∧ Below w.heap.size w w' := by
  have HM : Aside (P.meets f t f' t' = P.chk f' t' 7) := by show _ = _; rw [P.meets, if_pos (by simpa using c1)]
  have HO : Aside ((decide (P.meets f t f' t' = 0) && P.meet f t f' t') = false) := by show _ = _; have h := HM.out; rw [h, decide_eq_false (by simpa using c2)]; rfl
  have EA : Aside (P.addE l n f t = P.calendar l n) := by
    show _ = _
    have h : P.both l n f t = P.calendar l n := by rw [P.both, if_neg (by simpa using d1)]
    rw [P.addE, if_neg (by rw [h]; simpa using d1), h]
  have ET : Aside (P.takeE l n f t = P.calendar l n) := by
    show _ = _
    have h : P.both l n f t = P.calendar l n := by rw [P.both, if_neg (by simpa using d1)]
    rw [P.takeE, if_neg (by rw [h]; simpa using d1), h]
  have HC : Aside (P.calendar l n ≠ 0) := by show _ ≠ _; simpa using d1
  go_enter Try.func3, Try.ntmps3
  go_wp2_with fail
  refine (meets_any _ _ _ _ _).mono ?_
  rintro e w1 ⟨rfl, hb1⟩
  rw [HO.out, HM.out]
  have hx0 : BoxAt (((w.alloc (.cells #[.int .i64 f, .int .i64 t] 24))).alloc (.cells #[.int .i64 f', .int .i64 t'] 24)) w.heap.size f t := (BoxAt.new w f t).below (by go_grown)
  have hy0 : BoxAt (((w.alloc (.cells #[.int .i64 f, .int .i64 t] 24))).alloc (.cells #[.int .i64 f', .int .i64 t'] 24)) (w.heap.size + 1) f' t' := by
    have := BoxAt.new (w.alloc (.cells #[.int .i64 f, .int .i64 t] 24)) f' t'
    simpa using this
  have hx := hx0.below hb1
  have hy := hy0.below hb1
  have hw : Below w.heap.size w w1 := bvia (by go_grown) hb1
  clear hx0 hy0 hb1
  go_wp2_with fail
  refine (free_any _ _ l _ _ (hl.below hw)).mono ?_
  rintro e w2 ⟨v2, rfl, hown2, hb2⟩
  replace hx := hx.below hb2
  replace hy := hy.below hb2
  replace hw := bvia hw hb2
  obtain ⟨ao2, cap2, rfl, aF⟩ := Own.at hown2
  clear hown2 hb2
  obtain ⟨_, hx2b, hx2c⟩ := id hx
  go_wp2_with fail
  refine (add_any _ _ l _ _ _ _ (hl.below hw)).mono ?_
  rintro e w3 ⟨v3, rfl, hown3, hb3⟩
  rw [EA.out]
  replace hx := hx.below hb3
  replace hy := hy.below hb3
  replace hw := bvia hw hb3
  replace aF := aF.below hb3
  obtain ⟨ao3, cap3, rfl, aA⟩ := Own.at hown3
  clear hown3 hb3 hx2b hx2c
  obtain ⟨_, hx3b, hx3c⟩ := id hx
  go_wp2_with fail
  refine (take_any _ _ l _ _ _ _ (hl.below hw)).mono ?_
  rintro e w4 ⟨v4, rfl, hown4, hb4⟩
  rw [ET.out]
  replace hx := hx.below hb4
  replace hy := hy.below hb4
  replace hw := bvia hw hb4
  replace aF := aF.below hb4
  replace aA := aA.below hb4
  obtain ⟨ao4, cap4, rfl, aT⟩ := Own.at hown4
  clear hown4 hb4 hx3b hx3c
  obtain ⟨_, hx4b, hx4c⟩ := id hx
  go_wp2_with fail
  refine (checkSpan_any _ _ _ _).mono ?_
  rintro e w5 ⟨rfl, hb5⟩
  replace hx := hx.below hb5
  replace hy := hy.below hb5
  replace hw := bvia hw hb5
  replace aF := aF.below hb5
  replace aA := aA.below hb5
  replace aT := aT.below hb5
  clear hb5 hx4b hx4c
  obtain ⟨_, hx5b, hx5c⟩ := id hx
  obtain ⟨_, hy5b, hy5c⟩ := id hy
  go_wp2_with fail
  refine (checkSpan_any _ _ _ _).mono ?_
  rintro e w6 ⟨rfl, hb6⟩
  replace hx := hx.below hb6
  replace hy := hy.below hb6
  replace hw := bvia hw hb6
  replace aF := aF.below hb6
  replace aA := aA.below hb6
  replace aT := aT.below hb6
  clear hb6 hx5b hx5c hy5b hy5c
  obtain ⟨_, hx6b, hx6c⟩ := id hx
  obtain ⟨_, hy6b, hy6c⟩ := id hy
  go_wp2_with fail
  refine (refCalendar_any _ _ _ _ _ (hl.below hw)).mono ?_
  rintro e w7 ⟨rfl, hb7⟩
  replace hx := hx.below hb7
  replace hy := hy.below hb7
  replace hw := bvia hw hb7
  replace aF := aF.below hb7
  replace aA := aA.below hb7
  replace aT := aT.below hb7
  clear hb7 hx6b hx6c hy6b hy6c
  obtain ⟨_, hx7b, hx7c⟩ := id hx
  obtain ⟨_, hy7b, hy7c⟩ := id hy
  go_wp2_with fail
  have HF : Aside (P.free l n = if P.calendar l n = 0 then [] else []) := side_if (fun h => absurd h HC.out) free_bad
  have HA : Aside (P.addL l n f t = if P.calendar l n = 0 then [] else []) := side_if (fun h => absurd h HC.out) (fun h => addL_bad (by rw [EA.out]; exact h))
  have HT : Aside (P.takeL l n f t = if P.calendar l n = 0 then [] else []) := side_if (fun h => absurd h HC.out) (fun h => takeL_bad (by rw [ET.out]; exact h))
  have r0 := cell_regrown hx7b
  have r1 := cell_regrown hx7c
  have r2 := cell_regrown hy7b
  have r3 := cell_regrown hy7c
  refine wp_region_quiet_below (by kernel_rfl) (by kernel_rfl) ?_
  repeat (quiet_step (first
    | (go_at_call 18; exact Calls.regrown_of (spanBegun_any _))
    | (go_at_call 19; exact Calls.regrown_of (check_any _ _ _ _))
    | (go_at_call 13; exact Calls.regrown_of (checkSpan_any _ _ _ _))
    | (go_at_call_of 21 ao2; exact Calls.regrown_of (spansAre_any _ _ _ _ (P.free l n) [] (P.calendar l n) _ (aF.below (below_regrown _ _ _)) (SpAt.nilOf _) HF.out))
    | (go_at_call_of 21 ao3; exact Calls.regrown_of (spansAre_any _ _ _ _ (P.addL l n f t) [] _ _ (aA.below (below_regrown _ _ _)) (SpAt.nilOf _) HA.out))
    | (go_at_call_of 21 ao4; exact Calls.regrown_of (spansAre_any _ _ _ _ (P.takeL l n f t) [] _ _ (aT.below (below_regrown _ _ _)) (SpAt.nilOf _) HT.out))))
  refine wpQuiet_nil ?_
  intro wz hwz
  obtain ⟨⟨dq, osq⟩, hwz⟩ := hwz
  have hbz := below_regrown w7 dq osq
  rw [← hwz] at hbz
  clear hwz
  go_wp2
  go_ret
  exact ⟨by simp, bvia hw hbz⟩

set_option maxHeartbeats 8000000 in
theorem spanTells_22 (ao : Option Addr) (cap : Nat) (l : List (Int × Int)) (n f t f' t' : Int) (w : World) (hl : SpAt w ao cap l) (c1 : (P.chk f t 7 == 0) = true) (c2 : (P.chk f' t' 7 == 0) = false) (d1 : (P.calendar l n == 0) = true) (d2 : (P.chk f t n == 0) = false) :
    Calls Try.prog 3 #[.slice ao l.length cap, .int .i64 n, .agg #[.int .i64 f, .int .i64 t], .agg #[.int .i64 f', .int .i64 t']] w fun e w' => e = .returned (.bool true) ∧ Below w.heap.size w w' := by
  have HM : Aside (P.meets f t f' t' = P.chk f' t' 7) := by show _ = _; rw [P.meets, if_pos (by simpa using c1)]
  have HO : Aside ((decide (P.meets f t f' t' = 0) && P.meet f t f' t') = false) := by show _ = _; have h := HM.out; rw [h, decide_eq_false (by simpa using c2)]; rfl
  have EA : Aside (P.addE l n f t = P.chk f t n) := by
    show _ = _
    have h : P.both l n f t = P.chk f t n := by rw [P.both, if_pos (by simpa using d1)]
    rw [P.addE, if_neg (by rw [h]; simpa using d2), h]
  have ET : Aside (P.takeE l n f t = P.chk f t n) := by
    show _ = _
    have h : P.both l n f t = P.chk f t n := by rw [P.both, if_pos (by simpa using d1)]
    rw [P.takeE, if_neg (by rw [h]; simpa using d2), h]
  have HC : Aside (P.calendar l n = 0) := by show _ = _; simpa using d1
  have HK : Aside (P.chk f t n ≠ 0) := by show _ ≠ _; simpa using d2
  go_enter Try.func3, Try.ntmps3
  go_wp2_with fail
  refine (meets_any _ _ _ _ _).mono ?_
  rintro e w1 ⟨rfl, hb1⟩
  rw [HO.out, HM.out]
  have hx0 : BoxAt (((w.alloc (.cells #[.int .i64 f, .int .i64 t] 24))).alloc (.cells #[.int .i64 f', .int .i64 t'] 24)) w.heap.size f t := (BoxAt.new w f t).below (by go_grown)
  have hy0 : BoxAt (((w.alloc (.cells #[.int .i64 f, .int .i64 t] 24))).alloc (.cells #[.int .i64 f', .int .i64 t'] 24)) (w.heap.size + 1) f' t' := by
    have := BoxAt.new (w.alloc (.cells #[.int .i64 f, .int .i64 t] 24)) f' t'
    simpa using this
  have hx := hx0.below hb1
  have hy := hy0.below hb1
  have hw : Below w.heap.size w w1 := bvia (by go_grown) hb1
  clear hx0 hy0 hb1
  go_wp2_with fail
  refine (free_any _ _ l _ _ (hl.below hw)).mono ?_
  rintro e w2 ⟨v2, rfl, hown2, hb2⟩
  replace hx := hx.below hb2
  replace hy := hy.below hb2
  replace hw := bvia hw hb2
  obtain ⟨ao2, cap2, rfl, aF⟩ := Own.at hown2
  clear hown2 hb2
  obtain ⟨_, hx2b, hx2c⟩ := id hx
  go_wp2_with fail
  refine (add_any _ _ l _ _ _ _ (hl.below hw)).mono ?_
  rintro e w3 ⟨v3, rfl, hown3, hb3⟩
  rw [EA.out]
  replace hx := hx.below hb3
  replace hy := hy.below hb3
  replace hw := bvia hw hb3
  replace aF := aF.below hb3
  obtain ⟨ao3, cap3, rfl, aA⟩ := Own.at hown3
  clear hown3 hb3 hx2b hx2c
  obtain ⟨_, hx3b, hx3c⟩ := id hx
  go_wp2_with fail
  refine (take_any _ _ l _ _ _ _ (hl.below hw)).mono ?_
  rintro e w4 ⟨v4, rfl, hown4, hb4⟩
  rw [ET.out]
  replace hx := hx.below hb4
  replace hy := hy.below hb4
  replace hw := bvia hw hb4
  replace aF := aF.below hb4
  replace aA := aA.below hb4
  obtain ⟨ao4, cap4, rfl, aT⟩ := Own.at hown4
  clear hown4 hb4 hx3b hx3c
  obtain ⟨_, hx4b, hx4c⟩ := id hx
  go_wp2_with fail
  refine (checkSpan_any _ _ _ _).mono ?_
  rintro e w5 ⟨rfl, hb5⟩
  replace hx := hx.below hb5
  replace hy := hy.below hb5
  replace hw := bvia hw hb5
  replace aF := aF.below hb5
  replace aA := aA.below hb5
  replace aT := aT.below hb5
  clear hb5 hx4b hx4c
  obtain ⟨_, hx5b, hx5c⟩ := id hx
  obtain ⟨_, hy5b, hy5c⟩ := id hy
  go_wp2_with fail
  refine (checkSpan_any _ _ _ _).mono ?_
  rintro e w6 ⟨rfl, hb6⟩
  replace hx := hx.below hb6
  replace hy := hy.below hb6
  replace hw := bvia hw hb6
  replace aF := aF.below hb6
  replace aA := aA.below hb6
  replace aT := aT.below hb6
  clear hb6 hx5b hx5c hy5b hy5c
  obtain ⟨_, hx6b, hx6c⟩ := id hx
  obtain ⟨_, hy6b, hy6c⟩ := id hy
  go_wp2_with fail
  refine (refCalendar_any _ _ _ _ _ (hl.below hw)).mono ?_
  rintro e w7 ⟨rfl, hb7⟩
  replace hx := hx.below hb7
  replace hy := hy.below hb7
  replace hw := bvia hw hb7
  replace aF := aF.below hb7
  replace aA := aA.below hb7
  replace aT := aT.below hb7
  clear hb7 hx6b hx6c hy6b hy6c
  obtain ⟨_, hx7b, hx7c⟩ := id hx
  obtain ⟨_, hy7b, hy7c⟩ := id hy
  go_wp2_with fail
  refine (checkSpan_any _ _ _ _).mono ?_
  rintro e w8 ⟨rfl, hb8⟩
  replace hx := hx.below hb8
  replace hy := hy.below hb8
  replace hw := bvia hw hb8
  replace aF := aF.below hb8
  replace aA := aA.below hb8
  replace aT := aT.below hb8
  clear hb8 hx7b hx7c hy7b hy7c
  obtain ⟨_, hx8b, hx8c⟩ := id hx
  obtain ⟨_, hy8b, hy8c⟩ := id hy
  go_wp2_with fail
  refine (freeOf_any _ _ l _ _ (hl.below hw) HC.out).mono ?_
  rintro e w9 ⟨v9, rfl, hown9, hb9⟩
  replace hx := hx.below hb9
  replace hy := hy.below hb9
  replace hw := bvia hw hb9
  replace aF := aF.below hb9
  replace aA := aA.below hb9
  replace aT := aT.below hb9
  obtain ⟨ao9, cap9, rfl, bF⟩ := Own.at hown9
  clear hb9 hx8b hx8c hy8b hy8c
  obtain ⟨_, hx9b, hx9c⟩ := id hx
  obtain ⟨_, hy9b, hy9c⟩ := id hy
  go_wp2_with fail
  have HF : Aside (P.free l n = if P.calendar l n = 0 then (P.free l n) else []) := side_if (fun _ => rfl) free_bad
  have HA : Aside (P.addL l n f t = if P.chk f t n = 0 then [] else []) := side_if (fun h => absurd h HK.out) (fun h => addL_bad (by rw [EA.out]; exact h))
  have HT : Aside (P.takeL l n f t = if P.chk f t n = 0 then [] else []) := side_if (fun h => absurd h HK.out) (fun h => takeL_bad (by rw [ET.out]; exact h))
  have r0 := cell_regrown hx9b
  have r1 := cell_regrown hx9c
  have r2 := cell_regrown hy9b
  have r3 := cell_regrown hy9c
  refine wp_region_quiet_below (by kernel_rfl) (by kernel_rfl) ?_
  repeat (quiet_step (first
    | (go_at_call 18; exact Calls.regrown_of (spanBegun_any _))
    | (go_at_call 19; exact Calls.regrown_of (check_any _ _ _ _))
    | (go_at_call 13; exact Calls.regrown_of (checkSpan_any _ _ _ _))
    | (go_at_call_of 21 ao2; exact Calls.regrown_of (spansAre_any _ _ _ _ (P.free l n) (P.free l n) (P.calendar l n) _ (aF.below (below_regrown _ _ _)) (bF.below (below_regrown _ _ _)) HF.out))
    | (go_at_call_of 21 ao3; exact Calls.regrown_of (spansAre_any _ _ _ _ (P.addL l n f t) [] _ _ (aA.below (below_regrown _ _ _)) (SpAt.nilOf _) HA.out))
    | (go_at_call_of 21 ao4; exact Calls.regrown_of (spansAre_any _ _ _ _ (P.takeL l n f t) [] _ _ (aT.below (below_regrown _ _ _)) (SpAt.nilOf _) HT.out))))
  refine wpQuiet_nil ?_
  intro wz hwz
  obtain ⟨⟨dq, osq⟩, hwz⟩ := hwz
  have hbz := below_regrown w9 dq osq
  rw [← hwz] at hbz
  clear hwz
  go_wp2
  go_ret
  exact ⟨by simp, bvia hw hbz⟩

set_option maxHeartbeats 8000000 in
theorem spanTells_23 (ao : Option Addr) (cap : Nat) (l : List (Int × Int)) (n f t f' t' : Int) (w : World) (hl : SpAt w ao cap l) (c1 : (P.chk f t 7 == 0) = true) (c2 : (P.chk f' t' 7 == 0) = false) (d1 : (P.calendar l n == 0) = true) (d2 : (P.chk f t n == 0) = true) :
    Calls Try.prog 3 #[.slice ao l.length cap, .int .i64 n, .agg #[.int .i64 f, .int .i64 t], .agg #[.int .i64 f', .int .i64 t']] w fun e w' => e = .returned (.bool true) ∧ Below w.heap.size w w' := by
  have HM : Aside (P.meets f t f' t' = P.chk f' t' 7) := by show _ = _; rw [P.meets, if_pos (by simpa using c1)]
  have HO : Aside ((decide (P.meets f t f' t' = 0) && P.meet f t f' t') = false) := by show _ = _; have h := HM.out; rw [h, decide_eq_false (by simpa using c2)]; rfl
  have EA : Aside (P.addE l n f t = P.refAddE l f t) := by
    show _ = _
    exact (refAdd (by rw [P.both, if_pos (by simpa using d1)]; simpa using d2)).1.symm
  have ET : Aside (P.takeE l n f t = P.refTakeE l f t) := by
    show _ = _
    exact (refTake (by rw [P.both, if_pos (by simpa using d1)]; simpa using d2)).1.symm
  have HC : Aside (P.calendar l n = 0) := by show _ = _; simpa using d1
  have HK : Aside (P.chk f t n = 0) := by show _ = _; simpa using d2
  have h7 := (calendar_len HC.out).1
  have HAL : Aside (P.refAddL l f t = P.addL l n f t) := (refAdd (by rw [P.both, if_pos HC.out]; exact HK.out)).2
  have HTL : Aside (P.refTakeL l f t = P.takeL l n f t) := (refTake (by rw [P.both, if_pos HC.out]; exact HK.out)).2
  go_enter Try.func3, Try.ntmps3
  go_wp2_with fail
  refine (meets_any _ _ _ _ _).mono ?_
  rintro e w1 ⟨rfl, hb1⟩
  rw [HO.out, HM.out]
  have hx0 : BoxAt (((w.alloc (.cells #[.int .i64 f, .int .i64 t] 24))).alloc (.cells #[.int .i64 f', .int .i64 t'] 24)) w.heap.size f t := (BoxAt.new w f t).below (by go_grown)
  have hy0 : BoxAt (((w.alloc (.cells #[.int .i64 f, .int .i64 t] 24))).alloc (.cells #[.int .i64 f', .int .i64 t'] 24)) (w.heap.size + 1) f' t' := by
    have := BoxAt.new (w.alloc (.cells #[.int .i64 f, .int .i64 t] 24)) f' t'
    simpa using this
  have hx := hx0.below hb1
  have hy := hy0.below hb1
  have hw : Below w.heap.size w w1 := bvia (by go_grown) hb1
  clear hx0 hy0 hb1
  go_wp2_with fail
  refine (free_any _ _ l _ _ (hl.below hw)).mono ?_
  rintro e w2 ⟨v2, rfl, hown2, hb2⟩
  replace hx := hx.below hb2
  replace hy := hy.below hb2
  replace hw := bvia hw hb2
  obtain ⟨ao2, cap2, rfl, aF⟩ := Own.at hown2
  clear hown2 hb2
  obtain ⟨_, hx2b, hx2c⟩ := id hx
  go_wp2_with fail
  refine (add_any _ _ l _ _ _ _ (hl.below hw)).mono ?_
  rintro e w3 ⟨v3, rfl, hown3, hb3⟩
  rw [EA.out]
  replace hx := hx.below hb3
  replace hy := hy.below hb3
  replace hw := bvia hw hb3
  replace aF := aF.below hb3
  obtain ⟨ao3, cap3, rfl, aA⟩ := Own.at hown3
  clear hown3 hb3 hx2b hx2c
  obtain ⟨_, hx3b, hx3c⟩ := id hx
  go_wp2_with fail
  refine (take_any _ _ l _ _ _ _ (hl.below hw)).mono ?_
  rintro e w4 ⟨v4, rfl, hown4, hb4⟩
  rw [ET.out]
  replace hx := hx.below hb4
  replace hy := hy.below hb4
  replace hw := bvia hw hb4
  replace aF := aF.below hb4
  replace aA := aA.below hb4
  obtain ⟨ao4, cap4, rfl, aT⟩ := Own.at hown4
  clear hown4 hb4 hx3b hx3c
  obtain ⟨_, hx4b, hx4c⟩ := id hx
  go_wp2_with fail
  refine (checkSpan_any _ _ _ _).mono ?_
  rintro e w5 ⟨rfl, hb5⟩
  replace hx := hx.below hb5
  replace hy := hy.below hb5
  replace hw := bvia hw hb5
  replace aF := aF.below hb5
  replace aA := aA.below hb5
  replace aT := aT.below hb5
  clear hb5 hx4b hx4c
  obtain ⟨_, hx5b, hx5c⟩ := id hx
  obtain ⟨_, hy5b, hy5c⟩ := id hy
  go_wp2_with fail
  refine (checkSpan_any _ _ _ _).mono ?_
  rintro e w6 ⟨rfl, hb6⟩
  replace hx := hx.below hb6
  replace hy := hy.below hb6
  replace hw := bvia hw hb6
  replace aF := aF.below hb6
  replace aA := aA.below hb6
  replace aT := aT.below hb6
  clear hb6 hx5b hx5c hy5b hy5c
  obtain ⟨_, hx6b, hx6c⟩ := id hx
  obtain ⟨_, hy6b, hy6c⟩ := id hy
  go_wp2_with fail
  refine (refCalendar_any _ _ _ _ _ (hl.below hw)).mono ?_
  rintro e w7 ⟨rfl, hb7⟩
  replace hx := hx.below hb7
  replace hy := hy.below hb7
  replace hw := bvia hw hb7
  replace aF := aF.below hb7
  replace aA := aA.below hb7
  replace aT := aT.below hb7
  clear hb7 hx6b hx6c hy6b hy6c
  obtain ⟨_, hx7b, hx7c⟩ := id hx
  obtain ⟨_, hy7b, hy7c⟩ := id hy
  go_wp2_with fail
  refine (checkSpan_any _ _ _ _).mono ?_
  rintro e w8 ⟨rfl, hb8⟩
  replace hx := hx.below hb8
  replace hy := hy.below hb8
  replace hw := bvia hw hb8
  replace aF := aF.below hb8
  replace aA := aA.below hb8
  replace aT := aT.below hb8
  clear hb8 hx7b hx7c hy7b hy7c
  obtain ⟨_, hx8b, hx8c⟩ := id hx
  obtain ⟨_, hy8b, hy8c⟩ := id hy
  go_wp2_with fail
  refine (freeOf_any _ _ l _ _ (hl.below hw) HC.out).mono ?_
  rintro e w9 ⟨v9, rfl, hown9, hb9⟩
  replace hx := hx.below hb9
  replace hy := hy.below hb9
  replace hw := bvia hw hb9
  replace aF := aF.below hb9
  replace aA := aA.below hb9
  replace aT := aT.below hb9
  obtain ⟨ao9, cap9, rfl, bF⟩ := Own.at hown9
  clear hb9 hx8b hx8c hy8b hy8c
  obtain ⟨_, hx9b, hx9c⟩ := id hx
  obtain ⟨_, hy9b, hy9c⟩ := id hy
  go_wp2_with fail
  refine (addSpan_any _ _ l n _ _ _ (hl.below hw) HC.out HK.out).mono ?_
  rintro e w10 ⟨v10, rfl, hown10, hb10⟩
  replace hx := hx.below hb10
  replace hy := hy.below hb10
  replace hw := bvia hw hb10
  replace aF := aF.below hb10
  replace aA := aA.below hb10
  replace aT := aT.below hb10
  replace bF := bF.below hb10
  obtain ⟨ao10, cap10, rfl, bA⟩ := Own.at hown10
  clear hb10 hx9b hx9c hy9b hy9c
  obtain ⟨_, hx10b, hx10c⟩ := id hx
  obtain ⟨_, hy10b, hy10c⟩ := id hy
  go_wp2_with fail
  refine (takeSpan_any _ _ l _ _ _ (hl.below hw) h7).mono ?_
  rintro e w11 ⟨v11, rfl, hown11, hb11⟩
  replace hx := hx.below hb11
  replace hy := hy.below hb11
  replace hw := bvia hw hb11
  replace aF := aF.below hb11
  replace aA := aA.below hb11
  replace aT := aT.below hb11
  replace bF := bF.below hb11
  replace bA := bA.below hb11
  obtain ⟨ao11, cap11, rfl, bT⟩ := Own.at hown11
  clear hb11 hx10b hx10c hy10b hy10c
  obtain ⟨_, hx11b, hx11c⟩ := id hx
  obtain ⟨_, hy11b, hy11c⟩ := id hy
  go_wp2_with fail
  have HF : Aside (P.free l n = if P.calendar l n = 0 then (P.free l n) else []) := side_if (fun _ => rfl) free_bad
  have HA : Aside (P.addL l n f t = if P.refAddE l f t = 0 then (P.refAddL l f t) else []) := side_if (fun _ => HAL.out.symm) (fun h => addL_bad (by rw [EA.out]; exact h))
  have HT : Aside (P.takeL l n f t = if P.refTakeE l f t = 0 then (P.refTakeL l f t) else []) := side_if (fun _ => HTL.out.symm) (fun h => takeL_bad (by rw [ET.out]; exact h))
  have r0 := cell_regrown hx11b
  have r1 := cell_regrown hx11c
  have r2 := cell_regrown hy11b
  have r3 := cell_regrown hy11c
  refine wp_region_quiet_below (by kernel_rfl) (by kernel_rfl) ?_
  repeat (quiet_step (first
    | (go_at_call 18; exact Calls.regrown_of (spanBegun_any _))
    | (go_at_call 19; exact Calls.regrown_of (check_any _ _ _ _))
    | (go_at_call 13; exact Calls.regrown_of (checkSpan_any _ _ _ _))
    | (go_at_call_of 21 ao2; exact Calls.regrown_of (spansAre_any _ _ _ _ (P.free l n) (P.free l n) (P.calendar l n) _ (aF.below (below_regrown _ _ _)) (bF.below (below_regrown _ _ _)) HF.out))
    | (go_at_call_of 21 ao3; exact Calls.regrown_of (spansAre_any _ _ _ _ (P.addL l n f t) (P.refAddL l f t) _ _ (aA.below (below_regrown _ _ _)) (bA.below (below_regrown _ _ _)) HA.out))
    | (go_at_call_of 21 ao4; exact Calls.regrown_of (spansAre_any _ _ _ _ (P.takeL l n f t) (P.refTakeL l f t) _ _ (aT.below (below_regrown _ _ _)) (bT.below (below_regrown _ _ _)) HT.out))))
  refine wpQuiet_nil ?_
  intro wz hwz
  obtain ⟨⟨dq, osq⟩, hwz⟩ := hwz
  have hbz := below_regrown w11 dq osq
  rw [← hwz] at hbz
  clear hwz
  go_wp2
  go_ret
  exact ⟨by simp, bvia hw hbz⟩

set_option maxHeartbeats 8000000 in
theorem spanTells_31 (ao : Option Addr) (cap : Nat) (l : List (Int × Int)) (n f t f' t' : Int) (w : World) (hl : SpAt w ao cap l) (c1 : (P.chk f t 7 == 0) = true) (c2 : (P.chk f' t' 7 == 0) = true) (d1 : (P.calendar l n == 0) = false) :
    Calls Try.prog 3 #[.slice ao l.length cap, .int .i64 n, .agg #[.int .i64 f, .int .i64 t], .agg #[.int .i64 f', .int .i64 t']] w fun e w' => e = .returned (.bool true) ∧ Below w.heap.size w w' := by
  have HM : Aside (P.meets f t f' t' = P.chk f' t' 7) := by show _ = _; rw [P.meets, if_pos (by simpa using c1)]
  have HO : Aside ((decide (P.meets f t f' t' = 0) && P.meet f t f' t') = P.meet f t f' t') := by show _ = _; have h := HM.out; rw [h, decide_eq_true (by simpa using c2)]; simp
  have EA : Aside (P.addE l n f t = P.calendar l n) := by
    show _ = _
    have h : P.both l n f t = P.calendar l n := by rw [P.both, if_neg (by simpa using d1)]
    rw [P.addE, if_neg (by rw [h]; simpa using d1), h]
  have ET : Aside (P.takeE l n f t = P.calendar l n) := by
    show _ = _
    have h : P.both l n f t = P.calendar l n := by rw [P.both, if_neg (by simpa using d1)]
    rw [P.takeE, if_neg (by rw [h]; simpa using d1), h]
  have Z1 : Aside (P.chk f t 7 = 0) := by show _ = _; simpa using c1
  have Z2 : Aside (P.chk f' t' 7 = 0) := by show _ = _; simpa using c2
  have HC : Aside (P.calendar l n ≠ 0) := by show _ ≠ _; simpa using d1
  go_enter Try.func3, Try.ntmps3
  go_wp2_with fail
  refine (meets_any _ _ _ _ _).mono ?_
  rintro e w1 ⟨rfl, hb1⟩
  rw [HO.out, HM.out]
  have hx0 : BoxAt (((w.alloc (.cells #[.int .i64 f, .int .i64 t] 24))).alloc (.cells #[.int .i64 f', .int .i64 t'] 24)) w.heap.size f t := (BoxAt.new w f t).below (by go_grown)
  have hy0 : BoxAt (((w.alloc (.cells #[.int .i64 f, .int .i64 t] 24))).alloc (.cells #[.int .i64 f', .int .i64 t'] 24)) (w.heap.size + 1) f' t' := by
    have := BoxAt.new (w.alloc (.cells #[.int .i64 f, .int .i64 t] 24)) f' t'
    simpa using this
  have hx := hx0.below hb1
  have hy := hy0.below hb1
  have hw : Below w.heap.size w w1 := bvia (by go_grown) hb1
  clear hx0 hy0 hb1
  go_wp2_with fail
  refine (free_any _ _ l _ _ (hl.below hw)).mono ?_
  rintro e w2 ⟨v2, rfl, hown2, hb2⟩
  replace hx := hx.below hb2
  replace hy := hy.below hb2
  replace hw := bvia hw hb2
  obtain ⟨ao2, cap2, rfl, aF⟩ := Own.at hown2
  clear hown2 hb2
  obtain ⟨_, hx2b, hx2c⟩ := id hx
  go_wp2_with fail
  refine (add_any _ _ l _ _ _ _ (hl.below hw)).mono ?_
  rintro e w3 ⟨v3, rfl, hown3, hb3⟩
  rw [EA.out]
  replace hx := hx.below hb3
  replace hy := hy.below hb3
  replace hw := bvia hw hb3
  replace aF := aF.below hb3
  obtain ⟨ao3, cap3, rfl, aA⟩ := Own.at hown3
  clear hown3 hb3 hx2b hx2c
  obtain ⟨_, hx3b, hx3c⟩ := id hx
  go_wp2_with fail
  refine (take_any _ _ l _ _ _ _ (hl.below hw)).mono ?_
  rintro e w4 ⟨v4, rfl, hown4, hb4⟩
  rw [ET.out]
  replace hx := hx.below hb4
  replace hy := hy.below hb4
  replace hw := bvia hw hb4
  replace aF := aF.below hb4
  replace aA := aA.below hb4
  obtain ⟨ao4, cap4, rfl, aT⟩ := Own.at hown4
  clear hown4 hb4 hx3b hx3c
  obtain ⟨_, hx4b, hx4c⟩ := id hx
  go_wp2_with fail
  refine (checkSpan_any _ _ _ _).mono ?_
  rintro e w5 ⟨rfl, hb5⟩
  replace hx := hx.below hb5
  replace hy := hy.below hb5
  replace hw := bvia hw hb5
  replace aF := aF.below hb5
  replace aA := aA.below hb5
  replace aT := aT.below hb5
  clear hb5 hx4b hx4c
  obtain ⟨_, hx5b, hx5c⟩ := id hx
  obtain ⟨_, hy5b, hy5c⟩ := id hy
  go_wp2_with fail
  refine (checkSpan_any _ _ _ _).mono ?_
  rintro e w6 ⟨rfl, hb6⟩
  replace hx := hx.below hb6
  replace hy := hy.below hb6
  replace hw := bvia hw hb6
  replace aF := aF.below hb6
  replace aA := aA.below hb6
  replace aT := aT.below hb6
  clear hb6 hx5b hx5c hy5b hy5c
  obtain ⟨_, hx6b, hx6c⟩ := id hx
  obtain ⟨_, hy6b, hy6c⟩ := id hy
  go_wp2_with fail
  refine (refCalendar_any _ _ _ _ _ (hl.below hw)).mono ?_
  rintro e w7 ⟨rfl, hb7⟩
  replace hx := hx.below hb7
  replace hy := hy.below hb7
  replace hw := bvia hw hb7
  replace aF := aF.below hb7
  replace aA := aA.below hb7
  replace aT := aT.below hb7
  clear hb7 hx6b hx6c hy6b hy6c
  obtain ⟨_, hx7b, hx7c⟩ := id hx
  obtain ⟨_, hy7b, hy7c⟩ := id hy
  go_wp2_with fail
  have HF : Aside (P.free l n = if P.calendar l n = 0 then [] else []) := side_if (fun h => absurd h HC.out) free_bad
  have HA : Aside (P.addL l n f t = if P.calendar l n = 0 then [] else []) := side_if (fun h => absurd h HC.out) (fun h => addL_bad (by rw [EA.out]; exact h))
  have HT : Aside (P.takeL l n f t = if P.calendar l n = 0 then [] else []) := side_if (fun h => absurd h HC.out) (fun h => takeL_bad (by rw [ET.out]; exact h))
  have r0 := cell_regrown hx7b
  have r1 := cell_regrown hx7c
  have r2 := cell_regrown hy7b
  have r3 := cell_regrown hy7c
  refine wp_region_quiet_below (by kernel_rfl) (by kernel_rfl) ?_
  repeat (quiet_step (first
    | (go_at_call 18; exact Calls.regrown_of (spanBegun_any _))
    | (go_at_call 19; exact Calls.regrown_of (check_any _ _ _ _))
    | (go_at_call 13; exact Calls.regrown_of (checkSpan_any _ _ _ _))
    | (go_at_call 20; exact Calls.regrown_of (doMeet_any _ _ _ _ _ (chk_zero Z1.out).1 (chk_zero Z1.out).2.1 (chk_zero Z1.out).2.2.1 (chk_zero Z2.out).1 (chk_zero Z2.out).2.1 (chk_zero Z2.out).2.2.1))
    | (go_at_call_of 21 ao2; exact Calls.regrown_of (spansAre_any _ _ _ _ (P.free l n) [] (P.calendar l n) _ (aF.below (below_regrown _ _ _)) (SpAt.nilOf _) HF.out))
    | (go_at_call_of 21 ao3; exact Calls.regrown_of (spansAre_any _ _ _ _ (P.addL l n f t) [] _ _ (aA.below (below_regrown _ _ _)) (SpAt.nilOf _) HA.out))
    | (go_at_call_of 21 ao4; exact Calls.regrown_of (spansAre_any _ _ _ _ (P.takeL l n f t) [] _ _ (aT.below (below_regrown _ _ _)) (SpAt.nilOf _) HT.out))))
  refine wpQuiet_nil ?_
  intro wz hwz
  obtain ⟨⟨dq, osq⟩, hwz⟩ := hwz
  have hbz := below_regrown w7 dq osq
  rw [← hwz] at hbz
  clear hwz
  go_wp2
  go_ret
  exact ⟨by simp, bvia hw hbz⟩

set_option maxHeartbeats 8000000 in
theorem spanTells_32 (ao : Option Addr) (cap : Nat) (l : List (Int × Int)) (n f t f' t' : Int) (w : World) (hl : SpAt w ao cap l) (c1 : (P.chk f t 7 == 0) = true) (c2 : (P.chk f' t' 7 == 0) = true) (d1 : (P.calendar l n == 0) = true) (d2 : (P.chk f t n == 0) = false) :
    Calls Try.prog 3 #[.slice ao l.length cap, .int .i64 n, .agg #[.int .i64 f, .int .i64 t], .agg #[.int .i64 f', .int .i64 t']] w fun e w' => e = .returned (.bool true) ∧ Below w.heap.size w w' := by
  have HM : Aside (P.meets f t f' t' = P.chk f' t' 7) := by show _ = _; rw [P.meets, if_pos (by simpa using c1)]
  have HO : Aside ((decide (P.meets f t f' t' = 0) && P.meet f t f' t') = P.meet f t f' t') := by show _ = _; have h := HM.out; rw [h, decide_eq_true (by simpa using c2)]; simp
  have EA : Aside (P.addE l n f t = P.chk f t n) := by
    show _ = _
    have h : P.both l n f t = P.chk f t n := by rw [P.both, if_pos (by simpa using d1)]
    rw [P.addE, if_neg (by rw [h]; simpa using d2), h]
  have ET : Aside (P.takeE l n f t = P.chk f t n) := by
    show _ = _
    have h : P.both l n f t = P.chk f t n := by rw [P.both, if_pos (by simpa using d1)]
    rw [P.takeE, if_neg (by rw [h]; simpa using d2), h]
  have Z1 : Aside (P.chk f t 7 = 0) := by show _ = _; simpa using c1
  have Z2 : Aside (P.chk f' t' 7 = 0) := by show _ = _; simpa using c2
  have HC : Aside (P.calendar l n = 0) := by show _ = _; simpa using d1
  have HK : Aside (P.chk f t n ≠ 0) := by show _ ≠ _; simpa using d2
  go_enter Try.func3, Try.ntmps3
  go_wp2_with fail
  refine (meets_any _ _ _ _ _).mono ?_
  rintro e w1 ⟨rfl, hb1⟩
  rw [HO.out, HM.out]
  have hx0 : BoxAt (((w.alloc (.cells #[.int .i64 f, .int .i64 t] 24))).alloc (.cells #[.int .i64 f', .int .i64 t'] 24)) w.heap.size f t := (BoxAt.new w f t).below (by go_grown)
  have hy0 : BoxAt (((w.alloc (.cells #[.int .i64 f, .int .i64 t] 24))).alloc (.cells #[.int .i64 f', .int .i64 t'] 24)) (w.heap.size + 1) f' t' := by
    have := BoxAt.new (w.alloc (.cells #[.int .i64 f, .int .i64 t] 24)) f' t'
    simpa using this
  have hx := hx0.below hb1
  have hy := hy0.below hb1
  have hw : Below w.heap.size w w1 := bvia (by go_grown) hb1
  clear hx0 hy0 hb1
  go_wp2_with fail
  refine (free_any _ _ l _ _ (hl.below hw)).mono ?_
  rintro e w2 ⟨v2, rfl, hown2, hb2⟩
  replace hx := hx.below hb2
  replace hy := hy.below hb2
  replace hw := bvia hw hb2
  obtain ⟨ao2, cap2, rfl, aF⟩ := Own.at hown2
  clear hown2 hb2
  obtain ⟨_, hx2b, hx2c⟩ := id hx
  go_wp2_with fail
  refine (add_any _ _ l _ _ _ _ (hl.below hw)).mono ?_
  rintro e w3 ⟨v3, rfl, hown3, hb3⟩
  rw [EA.out]
  replace hx := hx.below hb3
  replace hy := hy.below hb3
  replace hw := bvia hw hb3
  replace aF := aF.below hb3
  obtain ⟨ao3, cap3, rfl, aA⟩ := Own.at hown3
  clear hown3 hb3 hx2b hx2c
  obtain ⟨_, hx3b, hx3c⟩ := id hx
  go_wp2_with fail
  refine (take_any _ _ l _ _ _ _ (hl.below hw)).mono ?_
  rintro e w4 ⟨v4, rfl, hown4, hb4⟩
  rw [ET.out]
  replace hx := hx.below hb4
  replace hy := hy.below hb4
  replace hw := bvia hw hb4
  replace aF := aF.below hb4
  replace aA := aA.below hb4
  obtain ⟨ao4, cap4, rfl, aT⟩ := Own.at hown4
  clear hown4 hb4 hx3b hx3c
  obtain ⟨_, hx4b, hx4c⟩ := id hx
  go_wp2_with fail
  refine (checkSpan_any _ _ _ _).mono ?_
  rintro e w5 ⟨rfl, hb5⟩
  replace hx := hx.below hb5
  replace hy := hy.below hb5
  replace hw := bvia hw hb5
  replace aF := aF.below hb5
  replace aA := aA.below hb5
  replace aT := aT.below hb5
  clear hb5 hx4b hx4c
  obtain ⟨_, hx5b, hx5c⟩ := id hx
  obtain ⟨_, hy5b, hy5c⟩ := id hy
  go_wp2_with fail
  refine (checkSpan_any _ _ _ _).mono ?_
  rintro e w6 ⟨rfl, hb6⟩
  replace hx := hx.below hb6
  replace hy := hy.below hb6
  replace hw := bvia hw hb6
  replace aF := aF.below hb6
  replace aA := aA.below hb6
  replace aT := aT.below hb6
  clear hb6 hx5b hx5c hy5b hy5c
  obtain ⟨_, hx6b, hx6c⟩ := id hx
  obtain ⟨_, hy6b, hy6c⟩ := id hy
  go_wp2_with fail
  refine (refCalendar_any _ _ _ _ _ (hl.below hw)).mono ?_
  rintro e w7 ⟨rfl, hb7⟩
  replace hx := hx.below hb7
  replace hy := hy.below hb7
  replace hw := bvia hw hb7
  replace aF := aF.below hb7
  replace aA := aA.below hb7
  replace aT := aT.below hb7
  clear hb7 hx6b hx6c hy6b hy6c
  obtain ⟨_, hx7b, hx7c⟩ := id hx
  obtain ⟨_, hy7b, hy7c⟩ := id hy
  go_wp2_with fail
  refine (checkSpan_any _ _ _ _).mono ?_
  rintro e w8 ⟨rfl, hb8⟩
  replace hx := hx.below hb8
  replace hy := hy.below hb8
  replace hw := bvia hw hb8
  replace aF := aF.below hb8
  replace aA := aA.below hb8
  replace aT := aT.below hb8
  clear hb8 hx7b hx7c hy7b hy7c
  obtain ⟨_, hx8b, hx8c⟩ := id hx
  obtain ⟨_, hy8b, hy8c⟩ := id hy
  go_wp2_with fail
  refine (freeOf_any _ _ l _ _ (hl.below hw) HC.out).mono ?_
  rintro e w9 ⟨v9, rfl, hown9, hb9⟩
  replace hx := hx.below hb9
  replace hy := hy.below hb9
  replace hw := bvia hw hb9
  replace aF := aF.below hb9
  replace aA := aA.below hb9
  replace aT := aT.below hb9
  obtain ⟨ao9, cap9, rfl, bF⟩ := Own.at hown9
  clear hb9 hx8b hx8c hy8b hy8c
  obtain ⟨_, hx9b, hx9c⟩ := id hx
  obtain ⟨_, hy9b, hy9c⟩ := id hy
  go_wp2_with fail
  have HF : Aside (P.free l n = if P.calendar l n = 0 then (P.free l n) else []) := side_if (fun _ => rfl) free_bad
  have HA : Aside (P.addL l n f t = if P.chk f t n = 0 then [] else []) := side_if (fun h => absurd h HK.out) (fun h => addL_bad (by rw [EA.out]; exact h))
  have HT : Aside (P.takeL l n f t = if P.chk f t n = 0 then [] else []) := side_if (fun h => absurd h HK.out) (fun h => takeL_bad (by rw [ET.out]; exact h))
  have r0 := cell_regrown hx9b
  have r1 := cell_regrown hx9c
  have r2 := cell_regrown hy9b
  have r3 := cell_regrown hy9c
  refine wp_region_quiet_below (by kernel_rfl) (by kernel_rfl) ?_
  repeat (quiet_step (first
    | (go_at_call 18; exact Calls.regrown_of (spanBegun_any _))
    | (go_at_call 19; exact Calls.regrown_of (check_any _ _ _ _))
    | (go_at_call 13; exact Calls.regrown_of (checkSpan_any _ _ _ _))
    | (go_at_call 20; exact Calls.regrown_of (doMeet_any _ _ _ _ _ (chk_zero Z1.out).1 (chk_zero Z1.out).2.1 (chk_zero Z1.out).2.2.1 (chk_zero Z2.out).1 (chk_zero Z2.out).2.1 (chk_zero Z2.out).2.2.1))
    | (go_at_call_of 21 ao2; exact Calls.regrown_of (spansAre_any _ _ _ _ (P.free l n) (P.free l n) (P.calendar l n) _ (aF.below (below_regrown _ _ _)) (bF.below (below_regrown _ _ _)) HF.out))
    | (go_at_call_of 21 ao3; exact Calls.regrown_of (spansAre_any _ _ _ _ (P.addL l n f t) [] _ _ (aA.below (below_regrown _ _ _)) (SpAt.nilOf _) HA.out))
    | (go_at_call_of 21 ao4; exact Calls.regrown_of (spansAre_any _ _ _ _ (P.takeL l n f t) [] _ _ (aT.below (below_regrown _ _ _)) (SpAt.nilOf _) HT.out))))
  refine wpQuiet_nil ?_
  intro wz hwz
  obtain ⟨⟨dq, osq⟩, hwz⟩ := hwz
  have hbz := below_regrown w9 dq osq
  rw [← hwz] at hbz
  clear hwz
  go_wp2
  go_ret
  exact ⟨by simp, bvia hw hbz⟩

set_option maxHeartbeats 8000000 in
theorem spanTells_33 (ao : Option Addr) (cap : Nat) (l : List (Int × Int)) (n f t f' t' : Int) (w : World) (hl : SpAt w ao cap l) (c1 : (P.chk f t 7 == 0) = true) (c2 : (P.chk f' t' 7 == 0) = true) (d1 : (P.calendar l n == 0) = true) (d2 : (P.chk f t n == 0) = true) :
    Calls Try.prog 3 #[.slice ao l.length cap, .int .i64 n, .agg #[.int .i64 f, .int .i64 t], .agg #[.int .i64 f', .int .i64 t']] w fun e w' => e = .returned (.bool true) ∧ Below w.heap.size w w' := by
  have HM : Aside (P.meets f t f' t' = P.chk f' t' 7) := by show _ = _; rw [P.meets, if_pos (by simpa using c1)]
  have HO : Aside ((decide (P.meets f t f' t' = 0) && P.meet f t f' t') = P.meet f t f' t') := by show _ = _; have h := HM.out; rw [h, decide_eq_true (by simpa using c2)]; simp
  have EA : Aside (P.addE l n f t = P.refAddE l f t) := by
    show _ = _
    exact (refAdd (by rw [P.both, if_pos (by simpa using d1)]; simpa using d2)).1.symm
  have ET : Aside (P.takeE l n f t = P.refTakeE l f t) := by
    show _ = _
    exact (refTake (by rw [P.both, if_pos (by simpa using d1)]; simpa using d2)).1.symm
  have Z1 : Aside (P.chk f t 7 = 0) := by show _ = _; simpa using c1
  have Z2 : Aside (P.chk f' t' 7 = 0) := by show _ = _; simpa using c2
  have HC : Aside (P.calendar l n = 0) := by show _ = _; simpa using d1
  have HK : Aside (P.chk f t n = 0) := by show _ = _; simpa using d2
  have h7 := (calendar_len HC.out).1
  have HAL : Aside (P.refAddL l f t = P.addL l n f t) := (refAdd (by rw [P.both, if_pos HC.out]; exact HK.out)).2
  have HTL : Aside (P.refTakeL l f t = P.takeL l n f t) := (refTake (by rw [P.both, if_pos HC.out]; exact HK.out)).2
  go_enter Try.func3, Try.ntmps3
  go_wp2_with fail
  refine (meets_any _ _ _ _ _).mono ?_
  rintro e w1 ⟨rfl, hb1⟩
  rw [HO.out, HM.out]
  have hx0 : BoxAt (((w.alloc (.cells #[.int .i64 f, .int .i64 t] 24))).alloc (.cells #[.int .i64 f', .int .i64 t'] 24)) w.heap.size f t := (BoxAt.new w f t).below (by go_grown)
  have hy0 : BoxAt (((w.alloc (.cells #[.int .i64 f, .int .i64 t] 24))).alloc (.cells #[.int .i64 f', .int .i64 t'] 24)) (w.heap.size + 1) f' t' := by
    have := BoxAt.new (w.alloc (.cells #[.int .i64 f, .int .i64 t] 24)) f' t'
    simpa using this
  have hx := hx0.below hb1
  have hy := hy0.below hb1
  have hw : Below w.heap.size w w1 := bvia (by go_grown) hb1
  clear hx0 hy0 hb1
  go_wp2_with fail
  refine (free_any _ _ l _ _ (hl.below hw)).mono ?_
  rintro e w2 ⟨v2, rfl, hown2, hb2⟩
  replace hx := hx.below hb2
  replace hy := hy.below hb2
  replace hw := bvia hw hb2
  obtain ⟨ao2, cap2, rfl, aF⟩ := Own.at hown2
  clear hown2 hb2
  obtain ⟨_, hx2b, hx2c⟩ := id hx
  go_wp2_with fail
  refine (add_any _ _ l _ _ _ _ (hl.below hw)).mono ?_
  rintro e w3 ⟨v3, rfl, hown3, hb3⟩
  rw [EA.out]
  replace hx := hx.below hb3
  replace hy := hy.below hb3
  replace hw := bvia hw hb3
  replace aF := aF.below hb3
  obtain ⟨ao3, cap3, rfl, aA⟩ := Own.at hown3
  clear hown3 hb3 hx2b hx2c
  obtain ⟨_, hx3b, hx3c⟩ := id hx
  go_wp2_with fail
  refine (take_any _ _ l _ _ _ _ (hl.below hw)).mono ?_
  rintro e w4 ⟨v4, rfl, hown4, hb4⟩
  rw [ET.out]
  replace hx := hx.below hb4
  replace hy := hy.below hb4
  replace hw := bvia hw hb4
  replace aF := aF.below hb4
  replace aA := aA.below hb4
  obtain ⟨ao4, cap4, rfl, aT⟩ := Own.at hown4
  clear hown4 hb4 hx3b hx3c
  obtain ⟨_, hx4b, hx4c⟩ := id hx
  go_wp2_with fail
  refine (checkSpan_any _ _ _ _).mono ?_
  rintro e w5 ⟨rfl, hb5⟩
  replace hx := hx.below hb5
  replace hy := hy.below hb5
  replace hw := bvia hw hb5
  replace aF := aF.below hb5
  replace aA := aA.below hb5
  replace aT := aT.below hb5
  clear hb5 hx4b hx4c
  obtain ⟨_, hx5b, hx5c⟩ := id hx
  obtain ⟨_, hy5b, hy5c⟩ := id hy
  go_wp2_with fail
  refine (checkSpan_any _ _ _ _).mono ?_
  rintro e w6 ⟨rfl, hb6⟩
  replace hx := hx.below hb6
  replace hy := hy.below hb6
  replace hw := bvia hw hb6
  replace aF := aF.below hb6
  replace aA := aA.below hb6
  replace aT := aT.below hb6
  clear hb6 hx5b hx5c hy5b hy5c
  obtain ⟨_, hx6b, hx6c⟩ := id hx
  obtain ⟨_, hy6b, hy6c⟩ := id hy
  go_wp2_with fail
  refine (refCalendar_any _ _ _ _ _ (hl.below hw)).mono ?_
  rintro e w7 ⟨rfl, hb7⟩
  replace hx := hx.below hb7
  replace hy := hy.below hb7
  replace hw := bvia hw hb7
  replace aF := aF.below hb7
  replace aA := aA.below hb7
  replace aT := aT.below hb7
  clear hb7 hx6b hx6c hy6b hy6c
  obtain ⟨_, hx7b, hx7c⟩ := id hx
  obtain ⟨_, hy7b, hy7c⟩ := id hy
  go_wp2_with fail
  refine (checkSpan_any _ _ _ _).mono ?_
  rintro e w8 ⟨rfl, hb8⟩
  replace hx := hx.below hb8
  replace hy := hy.below hb8
  replace hw := bvia hw hb8
  replace aF := aF.below hb8
  replace aA := aA.below hb8
  replace aT := aT.below hb8
  clear hb8 hx7b hx7c hy7b hy7c
  obtain ⟨_, hx8b, hx8c⟩ := id hx
  obtain ⟨_, hy8b, hy8c⟩ := id hy
  go_wp2_with fail
  refine (freeOf_any _ _ l _ _ (hl.below hw) HC.out).mono ?_
  rintro e w9 ⟨v9, rfl, hown9, hb9⟩
  replace hx := hx.below hb9
  replace hy := hy.below hb9
  replace hw := bvia hw hb9
  replace aF := aF.below hb9
  replace aA := aA.below hb9
  replace aT := aT.below hb9
  obtain ⟨ao9, cap9, rfl, bF⟩ := Own.at hown9
  clear hb9 hx8b hx8c hy8b hy8c
  obtain ⟨_, hx9b, hx9c⟩ := id hx
  obtain ⟨_, hy9b, hy9c⟩ := id hy
  go_wp2_with fail
  refine (addSpan_any _ _ l n _ _ _ (hl.below hw) HC.out HK.out).mono ?_
  rintro e w10 ⟨v10, rfl, hown10, hb10⟩
  replace hx := hx.below hb10
  replace hy := hy.below hb10
  replace hw := bvia hw hb10
  replace aF := aF.below hb10
  replace aA := aA.below hb10
  replace aT := aT.below hb10
  replace bF := bF.below hb10
  obtain ⟨ao10, cap10, rfl, bA⟩ := Own.at hown10
  clear hb10 hx9b hx9c hy9b hy9c
  obtain ⟨_, hx10b, hx10c⟩ := id hx
  obtain ⟨_, hy10b, hy10c⟩ := id hy
  go_wp2_with fail
  refine (takeSpan_any _ _ l _ _ _ (hl.below hw) h7).mono ?_
  rintro e w11 ⟨v11, rfl, hown11, hb11⟩
  replace hx := hx.below hb11
  replace hy := hy.below hb11
  replace hw := bvia hw hb11
  replace aF := aF.below hb11
  replace aA := aA.below hb11
  replace aT := aT.below hb11
  replace bF := bF.below hb11
  replace bA := bA.below hb11
  obtain ⟨ao11, cap11, rfl, bT⟩ := Own.at hown11
  clear hb11 hx10b hx10c hy10b hy10c
  obtain ⟨_, hx11b, hx11c⟩ := id hx
  obtain ⟨_, hy11b, hy11c⟩ := id hy
  go_wp2_with fail
  have HF : Aside (P.free l n = if P.calendar l n = 0 then (P.free l n) else []) := side_if (fun _ => rfl) free_bad
  have HA : Aside (P.addL l n f t = if P.refAddE l f t = 0 then (P.refAddL l f t) else []) := side_if (fun _ => HAL.out.symm) (fun h => addL_bad (by rw [EA.out]; exact h))
  have HT : Aside (P.takeL l n f t = if P.refTakeE l f t = 0 then (P.refTakeL l f t) else []) := side_if (fun _ => HTL.out.symm) (fun h => takeL_bad (by rw [ET.out]; exact h))
  have r0 := cell_regrown hx11b
  have r1 := cell_regrown hx11c
  have r2 := cell_regrown hy11b
  have r3 := cell_regrown hy11c
  refine wp_region_quiet_below (by kernel_rfl) (by kernel_rfl) ?_
  repeat (quiet_step (first
    | (go_at_call 18; exact Calls.regrown_of (spanBegun_any _))
    | (go_at_call 19; exact Calls.regrown_of (check_any _ _ _ _))
    | (go_at_call 13; exact Calls.regrown_of (checkSpan_any _ _ _ _))
    | (go_at_call 20; exact Calls.regrown_of (doMeet_any _ _ _ _ _ (chk_zero Z1.out).1 (chk_zero Z1.out).2.1 (chk_zero Z1.out).2.2.1 (chk_zero Z2.out).1 (chk_zero Z2.out).2.1 (chk_zero Z2.out).2.2.1))
    | (go_at_call_of 21 ao2; exact Calls.regrown_of (spansAre_any _ _ _ _ (P.free l n) (P.free l n) (P.calendar l n) _ (aF.below (below_regrown _ _ _)) (bF.below (below_regrown _ _ _)) HF.out))
    | (go_at_call_of 21 ao3; exact Calls.regrown_of (spansAre_any _ _ _ _ (P.addL l n f t) (P.refAddL l f t) _ _ (aA.below (below_regrown _ _ _)) (bA.below (below_regrown _ _ _)) HA.out))
    | (go_at_call_of 21 ao4; exact Calls.regrown_of (spansAre_any _ _ _ _ (P.takeL l n f t) (P.refTakeL l f t) _ _ (aT.below (below_regrown _ _ _)) (bT.below (below_regrown _ _ _)) HT.out))))
  refine wpQuiet_nil ?_
  intro wz hwz
  obtain ⟨⟨dq, osq⟩, hwz⟩ := hwz
  have hbz := below_regrown w11 dq osq
  rw [← hwz] at hbz
  clear hwz
  go_wp2
  go_ret
  exact ⟨by simp, bvia hw hbz⟩

theorem spanTells_walk (ao : Option Addr) (cap : Nat) (l : List (Int × Int)) (n f t f' t' : Int) (w : World) (hl : SpAt w ao cap l) :
    Calls Try.prog 3 #[.slice ao l.length cap, .int .i64 n, .agg #[.int .i64 f, .int .i64 t], .agg #[.int .i64 f', .int .i64 t']] w fun e w' => e = .returned (.bool true) ∧ Below w.heap.size w w' := by
  cases c1 : (P.chk f t 7 == 0)
  · cases d1 : (P.calendar l n == 0)
    · exact spanTells_11 ao cap l n f t f' t' w hl c1 d1
    · cases d2 : (P.chk f t n == 0)
      · exact spanTells_12 ao cap l n f t f' t' w hl c1 d1 d2
      · exact spanTells_13 ao cap l n f t f' t' w hl c1 d1 d2
  · cases c2 : (P.chk f' t' 7 == 0)
    · cases d1 : (P.calendar l n == 0)
      · exact spanTells_21 ao cap l n f t f' t' w hl c1 c2 d1
      · cases d2 : (P.chk f t n == 0)
        · exact spanTells_22 ao cap l n f t f' t' w hl c1 c2 d1 d2
        · exact spanTells_23 ao cap l n f t f' t' w hl c1 c2 d1 d2
    · cases d1 : (P.calendar l n == 0)
      · exact spanTells_31 ao cap l n f t f' t' w hl c1 c2 d1
      · cases d2 : (P.chk f t n == 0)
        · exact spanTells_32 ao cap l n f t f' t' w hl c1 c2 d1 d2
        · exact spanTells_33 ao cap l n f t f' t' w hl c1 c2 d1 d2

end Go.Proofs.Ytnadhpemmehedaa
