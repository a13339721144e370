/- The reference: CheckSailing, whatever the sailing. -/
import Derived.Test.YtpjfpgimpgmhcadGreatStG
namespace Go.Proofs.YtpjfpgimpgmhcadGreat.St
open Go.RowKit Bk
set_option linter.unusedSimpArgs false
set_option linter.unusedVariables false
set_option maxRecDepth 10000

theorem refSail_any (x : Sail) (a : SailA) (w : World) (hs : SailAt w x a) :
    Calls Tryz.prog 12 #[V.sail x a] w fun e w' => ∃ r, e = .returned (.int .i64 r) ∧ P.SailE x r ∧ Below w.heap.size w w' := by
  by_cases h : P.frame x = 0
  · exact refSail_ok x a w hs h
  · refine (refSail_frame x a w hs h).mono ?_
    rintro e w' ⟨rfl, hb⟩
    exact ⟨_, rfl, .inl (by rw [pre_frame h]; exact ⟨h, rfl⟩), hb⟩

end Go.Proofs.YtpjfpgimpgmhcadGreat.St
