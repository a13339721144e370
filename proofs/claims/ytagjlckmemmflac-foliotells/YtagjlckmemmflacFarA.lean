/- Walks of the leaves of fares: within, isPart, part, PartOf, span.Check, CheckSpan. -/
import Derived.Test.YtagjlckmemmflacGenA
import Derived.Deep.LoopGhost
import Derived.WalkSmall
import Derived.Lib.QuietBelow
namespace Go.Proofs.Ytagjlckmemmflac
open Go.RowKit
set_option linter.unusedSimpArgs false
set_option linter.unusedVariables false

set_option maxHeartbeats 400000 in
theorem check_any (f t n : Int) (w : World) :
    Calls Try.prog 30 #[.agg #[.int .i64 f, .int .i64 t], .int .i64 n] w fun e w' => e = .returned (.int .i64 (P.chk f t n)) ∧ Below w.heap.size w w' := by
  cases hs : P.sails n <;> by_cases h1 : f < 0 <;> by_cases h2 : n < t <;> by_cases h3 : t ≤ f
  all_goals
    go_enter Try.func30, Try.ntmps30
    go_wp2_with (go_at_call 51; refine (sails_any _ _).mono ?_; rintro e w' ⟨rfl, rfl⟩; rw [hs])
    go_ret
    refine ⟨by simp [P.chk, hs, h1, h2, h3] <;> (repeat' split) <;> first | rfl | omega, ?_⟩
    go_grown

set_option maxHeartbeats 400000 in
theorem checkSpan_any (f t n : Int) (w : World) :
    Calls Try.prog 13 #[.agg #[.int .i64 f, .int .i64 t], .int .i64 n] w fun e w' => e = .returned (.int .i64 (P.chk f t n)) ∧ Below w.heap.size w w' := by
  cases hs : P.sails n <;> by_cases h1 : f < 0 <;> by_cases h2 : n < t <;> by_cases h3 : t ≤ f
  all_goals
    go_enter Try.func13, Try.ntmps13
    go_wp2_with (go_at_call 37; refine (between17_any _ _).mono ?_; rintro e w' ⟨rfl, rfl⟩; rw [hs])
    go_ret
    refine ⟨by simp [P.chk, hs, h1, h2, h3] <;> (repeat' split) <;> first | rfl | omega, ?_⟩
    go_grown

theorem chk_zero {f t n : Int} (h : P.chk f t n = 0) : 0 ≤ f ∧ f < t ∧ t ≤ n ∧ n ≤ 7 ∧ 1 ≤ n ∧ P.sails n = true := by
  unfold P.chk at h
  split at h
  · omega
  · split at h
    · omega
    · rename_i h1 h2
      have hs : P.sails n = true := by cases hh : P.sails n <;> simp_all
      have hs2 := hs
      simp [P.sails] at hs2
      exact ⟨by omega, by omega, by omega, hs2.2, hs2.1, hs⟩

set_option maxHeartbeats 400000 in
theorem within_any (n a b : Int) (w : World) :
    Calls Try.prog 29 #[.int .i64 n, .int .i64 a, .int .i64 b] w fun e w' => e = .returned (.bool (P.btw n a b)) ∧ w = w' := by
  by_cases h1 : a ≤ n <;> by_cases h2 : n ≤ b
  all_goals
    go_enter Try.func29, Try.ntmps29
    go_wp2
    go_ret
    simp [P.btw, h1, h2]

set_option maxHeartbeats 400000 in
theorem isPart_any (n : Int) (w : World) :
    Calls Try.prog 40 #[.int .i64 n] w fun e w' => e = .returned (.bool (P.btw n 0 100)) ∧ w = w' := by
  go_enter Try.func40, Try.ntmps40
  go_wp2_with (go_at_call 29; refine (within_any _ _ _ _).mono ?_; rintro e w1 ⟨rfl, rfl⟩)
  go_ret
  simp

def P.part (a h : Int) : Int := (a * h + 50) / 100

set_option maxHeartbeats 400000 in
theorem part_any (a h : Int) (w : World) (h0 : 0 ≤ a * h) (h1 : a * h ≤ 1000000000000) :
    Calls Try.prog 34 #[.int .i64 a, .int .i64 h] w fun e w' => e = .returned (.int .i64 (P.part a h)) ∧ w = w' := by
  go_enter Try.func34, Try.ntmps34
  go_wp2
  go_ret
  simp [P.part]

set_option maxHeartbeats 400000 in
theorem partOf_any (a h : Int) (w : World) (h0 : 0 ≤ a * h) (h1 : a * h ≤ 1000000000000) :
    Calls Try.prog 15 #[.int .i64 a, .int .i64 h] w fun e w' => e = .returned (.int .i64 (P.part a h)) ∧ w = w' := by
  go_enter Try.func15, Try.ntmps15
  go_wp2
  all_goals
    go_ret
    simp [P.part]
    omega

end Go.Proofs.Ytagjlckmemmflac
