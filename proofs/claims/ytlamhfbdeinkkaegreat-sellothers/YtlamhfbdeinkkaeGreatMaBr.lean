import Derived.Test.YtlamhfbdeinkkaeGreatMaAr
set_option maxRecDepth 10000
/- Walks of Add, Take, Fits, Peak of package count. -/
namespace Go.Proofs.YtlamhfbdeinkkaeGreat.Ma
open Go.RowKit
set_option linter.unusedSimpArgs false
set_option linter.unusedVariables false

/-- The greatest number of the legs from f to ahead of t; the first leg that has it. -/
structure PeakAt (l : List Int) (f t : Nat) (m : Int) (a : Nat) : Prop where
  lo : f ≤ a
  hi : a < t
  is : l.getD a 0 = m
  most : ∀ i, f ≤ i → i < t → l.getD i 0 ≤ m
  first : ∀ i, f ≤ i → i < a → l.getD i 0 < m
theorem PeakAt.one {l : List Int} {f t : Nat} {m m' : Int} {a a' : Nat} (h : PeakAt l f t m a) (h' : PeakAt l f t m' a') : m = m' ∧ a = a' := by
  have h1 := h.most a' h'.lo h'.hi
  have h2 := h'.most a h.lo h.hi
  rw [h'.is] at h1
  rw [h.is] at h2
  have e : m = m' := by omega
  subst e
  refine ⟨rfl, ?_⟩
  rcases Nat.lt_trichotomy a a' with h3 | h3 | h3
  · have := h'.first a h.lo h3
    have := h.is
    omega
  · exact h3
  · have := h.first a' h'.lo h3
    have := h'.is
    omega

end Go.Proofs.YtlamhfbdeinkkaeGreat.Ma
/- Walks of the reference on counts: CheckMore, MoreOf, PeakOf; intsAre; countBegun. -/
namespace Go.Proofs.YtlamhfbdeinkkaeGreat.Ma
open Go.RowKit
set_option linter.unusedSimpArgs false
set_option linter.unusedVariables false

theorem ints3 (w : World) (a b c : Int) : IntsAt (w.alloc (.cells #[.int .i64 a, .int .i64 b, .int .i64 c] 3)) (some ⟨w.heap.size, 0, none⟩) 3 [a, b, c] := by
  have hl := heap_fold [.cells #[.int .i64 a, .int .i64 b, .int .i64 c] 3] w 0
  exact SlAt.ofBlock [[.int .i64 a], [.int .i64 b], [.int .i64 c]] (l := [a, b, c]) hl rfl rfl (fun i hi => by have hi : i < 3 := hi; match i, hi with | 0, _ => exact ⟨_, rfl, rfl⟩ | 1, _ => exact ⟨_, rfl, rfl⟩ | 2, _ => exact ⟨_, rfl, rfl⟩) (by simp) (by simp [maxLen])

end Go.Proofs.YtlamhfbdeinkkaeGreat.Ma
