/- stockBegun. -/
import Derived.Test.YtpjfpgimpgmhcaeGreatStR
namespace Go.Proofs.YtpjfpgimpgmhcaeGreat.St
open Go.RowKit Bk
set_option linter.unusedSimpArgs false
set_option linter.unusedVariables false
set_option maxRecDepth 10000

def T.B1 : Bkg := ⟨10, 2, 1, 2, false, -1, 0, 0, 3, 4, []⟩
theorem t_pre : P.pre T.C = 0 ∧ P.twice T.C = false ∧ P.many T.C = false := by decide +kernel
theorem t_ids : P.pids T.C.bks = [9] ∧ P.pedg T.C.s T.C.bks 0 T.C.bks = [(0, 0), (0, 2)] := by decide +kernel
theorem t_max : Ma.MaxM [(0, 0), (0, 2)] 1 := by
  refine ⟨⟨[(0, 0)], ⟨by simp, by simp⟩, rfl⟩, fun m hm => ?_⟩
  obtain ⟨h1, h2⟩ := hm
  match m with
  | [] => simp
  | [_] => simp
  | x :: y :: t =>
    exfalso
    have hx := h1 x (by simp)
    have hy := h1 y (by simp)
    have h := (List.pairwise_cons.1 h2).1 y (by simp)
    have e1 : x.1 = 0 := by simp at hx; rcases hx with rfl | rfl <;> rfl
    have e2 : y.1 = 0 := by simp at hy; rcases hy with rfl | rfl <;> rfl
    exact h.1 (by rw [e1, e2])
theorem t_sail : P.SailE T.C 0 := .inr ⟨t_pre.1, 0, .inr (.inr ⟨t_pre.2.1, t_pre.2.2, 1, by rw [t_ids.2]; exact t_max, by rw [t_ids.1]; rfl⟩), rfl⟩
end Go.Proofs.YtpjfpgimpgmhcaeGreat.St
