/- Package stock: Promises, Free. -/
import Derived.Test.YtpjfpgimpgmhcaeGreatStN
namespace Go.Proofs.YtpjfpgimpgmhcaeGreat.St
open Go.RowKit Bk
set_option linter.unusedSimpArgs false
set_option linter.unusedVariables false
set_option maxRecDepth 10000

theorem pre_zero {x : Sail} (h : P.pre x = 0) : P.frame x = 0 ∧ P.bksI x.s 0 x.bks = 0 ∧ x.bks.any (P.clB x) = false := by
  unfold P.pre at h
  split at h
  · split at h
    · split at h
      · omega
      · rename_i h1 h2 h3
        exact ⟨h1, h2, by simpa using h3⟩
    · contradiction
  · contradiction
/-- A sailing that is right. -/
theorem sail_ok {x : Sail} (h : P.SailE x 0) : P.pre x = 0 ∧ P.frame x = 0 ∧ P.shp x.s = 0 ∧ (∀ b ∈ x.bks, P.bkE x.s b = 0) ∧ x.bks.length ≤ 16 ∧ P.twice x = false ∧ P.many x = false ∧ ∃ c, Ma.MaxM (P.pedg x.s x.bks 0 x.bks) c ∧ (P.pids x.bks).length ≤ c := by
  rcases h with ⟨h1, h2⟩ | ⟨h1, q, hq, hr⟩
  · exact absurd h2.symm h1
  · obtain ⟨hf, hb, _⟩ := pre_zero h1
    obtain ⟨h0, _, _, _, h16⟩ := frame_zero hf
    refine ⟨h1, hf, h0, bksI_ok hb, h16, ?_⟩
    rcases hq with ⟨a, rfl⟩ | ⟨a, b, rfl⟩ | ⟨a, b, c, hc, rfl⟩
    · simp at hr
    · simp at hr
    · refine ⟨a, b, c, hc, ?_⟩
      split at hr
      · simp at hr
      · omega
def P.ok {α : Type} (r : Int) (l : List α) : List α := if r = 0 then l else []

end Go.Proofs.YtpjfpgimpgmhcaeGreat.St
