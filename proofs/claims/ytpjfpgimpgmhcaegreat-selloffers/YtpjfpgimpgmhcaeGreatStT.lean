/- StockKept: its mathematics, and its walk. -/
import Derived.Test.YtpjfpgimpgmhcaeGreatStS
namespace Go.Proofs.YtpjfpgimpgmhcaeGreat.St
open Go.RowKit Bk
set_option linter.unusedSimpArgs false
set_option linter.unusedVariables false
set_option maxRecDepth 10000

theorem meet_comm (a b c d : Int) : Sp.P.meet a b c d = Sp.P.meet c d a b := by rw [Sp.P.meet, Sp.P.meet, Bool.and_comm]
theorem adds_apart {n : Int} {acc r : List (Int × Int)} (h : P.addsE n acc r = 0) : (∀ z ∈ acc, ∀ y ∈ r, Sp.P.meet z.1 z.2 y.1 y.2 = false) ∧ r.Pairwise (fun a b => Sp.P.meet a.1 a.2 b.1 b.2 = false) := by
  induction r generalizing acc with
  | nil => simp
  | cons y r ih =>
    rw [P.addsE] at h
    split at h
    · rename_i he
      obtain ⟨_, _, h3, h4⟩ := Sp.add_ok he
      rw [h4] at h
      obtain ⟨i1, i2⟩ := ih h
      refine ⟨fun z hz u hu => ?_, List.pairwise_cons.2 ⟨fun u hu => i1 (y.1, y.2) (Sp.mem_ins.2 (.inl rfl)) u hu, i2⟩⟩
      rcases List.mem_cons.1 hu with rfl | hu
      · exact h3 z hz
      · exact i1 z (Sp.mem_ins.2 (.inr hz)) u hu
    · contradiction
end Go.Proofs.YtpjfpgimpgmhcaeGreat.St
