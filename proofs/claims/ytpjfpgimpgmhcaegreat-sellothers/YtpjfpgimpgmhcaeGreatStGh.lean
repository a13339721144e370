/- The reference: CheckSailing. -/
import Derived.Test.YtpjfpgimpgmhcaeGreatStDh
import Derived.Test.YtpjfpgimpgmhcaeGreatStFh
namespace Go.Proofs.YtpjfpgimpgmhcaeGreat.St
open Go.RowKit Bk
set_option linter.unusedSimpArgs false
set_option linter.unusedVariables false
set_option maxRecDepth 10000

/-- H1. -/
def P.SailE (x : Sail) (r : Int) : Prop := (¬ P.pre x = 0 ∧ r = P.pre x) ∨ (P.pre x = 0 ∧ ∃ q, P.Room x q ∧ r = if q = 8 then 2 else q)
theorem SailE.one {x : Sail} {r r' : Int} (h : P.SailE x r) (h' : P.SailE x r') : r = r' := by
  rcases h with ⟨a, rfl⟩ | ⟨a, q, hq, rfl⟩ <;> rcases h' with ⟨a', rfl⟩ | ⟨a', q', hq', rfl⟩
  · rfl
  · exact absurd a' a
  · exact absurd a a'
  · rw [Room.one hq hq']
theorem frame_zero {x : Sail} (h : P.frame x = 0) : P.shp x.s = 0 ∧ P.fareS x = 0 ∧ P.btw x.day 0 9999 = true ∧ P.btw x.lvs 0 9999 = true ∧ x.bks.length ≤ 16 := by
  unfold P.frame at h
  split at h
  · split at h
    · split at h
      · rename_i h1 h2 h3
        obtain ⟨h4, h5⟩ := Bool.and_eq_true_iff.1 h3
        split at h
        · omega
        · exact ⟨h1, h2, h4, h5, by omega⟩
      · omega
    · contradiction
  · contradiction
theorem pre_bks {x : Sail} (h : P.frame x = 0) (h1 : ¬ P.bksI x.s 0 x.bks = 0) : P.pre x = P.bksI x.s 0 x.bks := by rw [P.pre, if_pos h, if_neg h1]
theorem pre_cl {x : Sail} (h : P.frame x = 0) (h1 : P.bksI x.s 0 x.bks = 0) (h2 : x.bks.any (P.clB x) = true) : P.pre x = 4 := by rw [P.pre, if_pos h, if_pos h1, if_pos h2]
theorem pre_ok {x : Sail} (h : P.frame x = 0) (h1 : P.bksI x.s 0 x.bks = 0) (h2 : x.bks.any (P.clB x) = false) : P.pre x = 0 := by rw [P.pre, if_pos h, if_pos h1, if_neg (by simp [h2])]
theorem bksI_ok {s : Vsl} {p : Int} {l : List Bkg} (h : P.bksI s p l = 0) : ∀ b ∈ l, P.bkE s b = 0 := by
  induction l generalizing p with
  | nil => simp
  | cons b t ih =>
    rw [P.bksI] at h
    split at h
    · rename_i hb
      split at h
      · omega
      · intro y hy
        rcases List.mem_cons.1 hy with rfl | hy
        · exact hb
        · exact ih h y hy
    · contradiction
theorem bksI_bad {s : Vsl} {p : Int} {y : Bkg} {t : List Bkg} (h : ¬ P.bkE s y = 0) : P.bksI s p (y :: t) = P.bkE s y := by rw [P.bksI, if_neg h]
theorem bksI_low {s : Vsl} {p : Int} {y : Bkg} {t : List Bkg} (h : P.bkE s y = 0) (hp : y.id ≤ p) : P.bksI s p (y :: t) = 4 := by rw [P.bksI, if_pos h, if_pos hp]
theorem bksI_on {s : Vsl} {p : Int} {y : Bkg} {t : List Bkg} (h : P.bkE s y = 0) (hp : ¬ y.id ≤ p) : P.bksI s p (y :: t) = P.bksI s y.id t := by rw [P.bksI, if_pos h, if_neg hp]

end Go.Proofs.YtpjfpgimpgmhcaeGreat.St
namespace Go.Proofs.YtpjfpgimpgmhcaeGreat.St
open Go.RowKit Bk
set_option linter.unusedSimpArgs false
set_option linter.unusedVariables false
set_option maxRecDepth 10000

end Go.Proofs.YtpjfpgimpgmhcaeGreat.St
