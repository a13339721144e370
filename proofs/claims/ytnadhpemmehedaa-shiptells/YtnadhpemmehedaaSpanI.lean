/- The walk of spanBegun: what must be in any case is. -/
import Derived.Test.YtnadhpemmehedaaSpanH
namespace Go.Proofs.Ytnadhpemmehedaa
open Go.RowKit
set_option linter.unusedSimpArgs false
set_option linter.unusedVariables false

theorem SpAt.lit {w : World} (l : List (Int × Int)) (cs : Array Value) (hcs : cs = (cellsOf l).toArray) (hm : l.length ≤ maxLen) : SpAt (w.alloc (.cells cs 24)) (some ⟨w.heap.size, 0, Option.none⟩) l.length l := by
  subst hcs
  refine ⟨Nat.le_refl _, hm, (fun h => by cases h), fun h0 => ⟨_, _, rfl, by simp, fun i hi => ?_⟩⟩
  obtain ⟨c0, c1⟩ := cellsOf_get l i hi
  refine ⟨?_, ?_⟩ <;> simp [c0, c1]

set_option maxHeartbeats 1000000 in
theorem spanBegun_any (w : World) :
    Calls Try.prog 18 #[] w fun e w' => e = .returned (.bool true) ∧ Below w.heap.size w w' := by
  go_enter Try.func18, Try.ntmps18
  go_wp2_with fail
  refine (meets_any _ _ _ _ _).mono ?_
  rintro e w1 ⟨rfl, hb1⟩
  rw [show P.meets 0 2 1 3 = 0 by decide, show (decide ((0 : Int) = 0) && P.meet 0 2 1 3) = true by decide]
  go_wp2_with fail
  have a1 : SpAt (w1.alloc (.cells #[.int .i64 4, .int .i64 5] 24)) (some ⟨w1.heap.size, 0, Option.none⟩) 1 [(4, 5)] := SpAt.lit [(4, 5)] _ rfl (by decide)
  refine (add_any _ 1 [(4, 5)] _ _ _ _ a1).mono ?_
  rintro e w2 ⟨v2, rfl, hown2, hb2⟩
  rw [show P.addE [(4, 5)] 7 1 3 = 0 by decide]
  rw [show P.addL [(4, 5)] 7 1 3 = [(1, 3), (4, 5)] by decide] at hown2
  obtain ⟨ao2, cap2, rfl, a2⟩ := Own.at hown2
  go_wp2_with fail
  refine (free_any _ _ [(1, 3), (4, 5)] _ _ a2).mono ?_
  rintro e w3 ⟨v3, rfl, hown3, hb3⟩
  rw [show P.calendar [(1, 3), (4, 5)] 7 = 0 by decide]
  rw [show P.free [(1, 3), (4, 5)] 7 = [(0, 1), (3, 4), (5, 7)] by decide] at hown3
  obtain ⟨ao3, cap3, rfl, a3⟩ := Own.at hown3
  go_wp2_with fail
  refine (take_any _ _ [(1, 3), (4, 5)] _ _ _ _ (a2.below hb3)).mono ?_
  rintro e w4 ⟨v4, rfl, hown4, hb4⟩
  rw [show P.takeE [(1, 3), (4, 5)] 7 4 5 = 0 by decide]
  rw [show P.takeL [(1, 3), (4, 5)] 7 4 5 = [(1, 3)] by decide] at hown4
  obtain ⟨ao4, cap4, rfl, a4⟩ := Own.at hown4
  go_wp2_with fail
  refine (check_any _ _ _ _).mono ?_
  rintro e w5 ⟨rfl, hb5⟩
  rw [show P.chk 0 1 1 = 0 by decide]
  go_wp2_with fail
  have hw5 : Below w3.heap.size w3 w5 := bvia hb4 hb5
  have a5 : SpAt (w5.alloc (.cells #[.int .i64 0, .int .i64 1, .int .i64 3, .int .i64 4, .int .i64 5, .int .i64 7] 24)) (some ⟨w5.heap.size, 0, Option.none⟩) 3 [(0, 1), (3, 4), (5, 7)] := SpAt.lit [(0, 1), (3, 4), (5, 7)] _ rfl (by decide)
  refine (sameSpans_any _ _ _ _ [(0, 1), (3, 4), (5, 7)] [(0, 1), (3, 4), (5, 7)] _ ((a3.below hw5).below (by go_grown)) a5).mono ?_
  rintro e w6 ⟨rfl, hb6⟩
  go_wp2
  go_ret
  exact ⟨by simp, bvia (bvia (bvia (bvia (bvia (bvia (bvia hb1 (by go_grown)) hb2) hb3) hb4) hb5) (by go_grown)) hb6⟩

end Go.Proofs.Ytnadhpemmehedaa
