/- Walks of the leaves of package span and of the reference's: each call answers what the plain function beside it computes. -/
import Derived.Test.YtagjlckmemmflacRows
import Derived.WalkKit
import Derived.WalkSpells
import Derived.WalkLawsBesides
import Derived.Handy
import Derived.Deep.QuietTactic
import Derived.BigQuiet
namespace Go.Proofs.Ytagjlckmemmflac
open Go.RowKit
set_option linter.unusedSimpArgs false
set_option linter.unusedVariables false

def P.btw (n a b : Int) : Bool := decide (a ≤ n) && decide (n ≤ b)
def P.sails (n : Int) : Bool := decide (1 ≤ n) && decide (n ≤ 7)
def P.chk (f t n : Int) : Int := if P.sails n = false ∨ f < 0 ∨ n < t then 3 else if t ≤ f then 4 else 0

abbrev V.sp (s : Int × Int) : Value := .agg #[.int .i64 s.1, .int .i64 s.2]

/-- Behind a call that turns nothing old: old cells and old marks read as before. -/
theorem bcell {W w1 : World} (hb : Below W.heap.size W w1) : (∀ b o, b < W.heap.size → w1.cell? ⟨b, o, none⟩ = W.cell? ⟨b, o, none⟩) ∧ (∀ b o, b < W.heap.size → w1.frozen? ⟨b, o, none⟩ = W.frozen? ⟨b, o, none⟩) :=
  ⟨fun b o h => hb.cell (p := ⟨b, o, none⟩) h, fun b o h => hb.frozen (p := ⟨b, o, none⟩) h⟩

theorem ret_int {k : IntKind} {a b : Int} (h : a = b) : Ending.returned (.int k a) = .returned (.int k b) := by rw [h]
theorem ret_bool {a b : Bool} (h : a = b) : Ending.returned (.bool a) = .returned (.bool b) := by rw [h]
theorem ret2_int {v : Value} {k : IntKind} {a b : Int} (h : a = b) : Ending.returned (.tuple #[v, .int k a]) = .returned (.tuple #[v, .int k b]) := by rw [h]
theorem bvia {a b c : World} (h : Below a.heap.size a b) (k : Below b.heap.size b c) : Below a.heap.size a c := h.trans (k.mono h.size)

set_option maxHeartbeats 400000 in
theorem sails_any (n : Int) (w : World) :
    Calls Try.prog 51 #[.int .i64 n] w fun e w' => e = .returned (.bool (P.sails n)) ∧ w = w' := by
  by_cases h1 : 1 ≤ n <;> by_cases h2 : n ≤ 7
  all_goals
    go_enter Try.func51, Try.ntmps51
    go_wp2
    go_ret
    simp [P.sails, h1, h2]

set_option maxHeartbeats 400000 in
theorem between_any (n a b : Int) (w : World) :
    Calls Try.prog 37 #[.int .i64 n, .int .i64 a, .int .i64 b] w fun e w' => e = .returned (.bool (P.btw n a b)) ∧ w = w' := by
  by_cases h1 : a ≤ n <;> by_cases h2 : n ≤ b
  all_goals
    go_enter Try.func37, Try.ntmps37
    go_wp2
    go_ret
    simp [P.btw, h1, h2]

theorem between17_any (n : Int) (w : World) :
    Calls Try.prog 37 #[.int .i64 n, .int .i64 1, .int .i64 7] w fun e w' => e = .returned (.bool (P.sails n)) ∧ w = w' := between_any n 1 7 w

end Go.Proofs.Ytagjlckmemmflac
