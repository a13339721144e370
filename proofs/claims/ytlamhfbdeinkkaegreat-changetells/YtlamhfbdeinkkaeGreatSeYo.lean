/- othersStay. -/
import Derived.Test.YtlamhfbdeinkkaeGreatTwAo
import Derived.Test.YtlamhfbdeinkkaeGreatStEo
import Derived.Test.YtlamhfbdeinkkaeGreatAnAo
import Derived.Test.YtlamhfbdeinkkaeGreatStRo
import Derived.Test.YtlamhfbdeinkkaeGreatStPo
namespace Go.Proofs.YtlamhfbdeinkkaeGreat.St
open Go.RowKit Bk
set_option linter.unusedSimpArgs false
set_option linter.unusedVariables false
set_option maxRecDepth 10000

/-- Where a number stands. -/
theorem bat_at {l : List Bkg} {id : Int} (i : Nat) (h : ∃ b ∈ l, b.id = id) : ∃ k : Nat, P.bat id i l = ((i + k : Nat) : Int) ∧ k < l.length ∧ ∃ b, l[k]? = some b ∧ b.id = id := by
  induction l generalizing i with
  | nil => obtain ⟨b, hb, _⟩ := h; simp at hb
  | cons y t ih =>
    by_cases hy : y.id = id
    · exact ⟨0, by rw [P.bat, if_pos hy]; simp, by simp, y, rfl, hy⟩
    · obtain ⟨b, hb, hid⟩ := h
      rcases List.mem_cons.1 hb with rfl | hb
      · exact absurd hid hy
      · obtain ⟨k, h1, h2, c, h3, h4⟩ := ih (i + 1) ⟨b, hb, hid⟩
        refine ⟨k + 1, ?_, by simp; omega, c, by simpa using h3, h4⟩
        rw [P.bat, if_neg hy, h1]
        congr 1
        omega
theorem id_one {l : List Bkg} (hr : l.Pairwise (fun a b => a.id < b.id)) {a b : Bkg} (ha : a ∈ l) (hb : b ∈ l) (e : a.id = b.id) : a = b := by
  induction l with
  | nil => simp at ha
  | cons y t ih =>
    obtain ⟨h1, h2⟩ := List.pairwise_cons.1 hr
    rcases List.mem_cons.1 ha with p1 | p1 <;> rcases List.mem_cons.1 hb with p2 | p2
    · rw [p1, p2]
    · have := h1 b p2; rw [p1] at e; omega
    · have := h1 a p1; rw [p2] at e; omega
    · exact ih h2 p1 p2
end Go.Proofs.YtlamhfbdeinkkaeGreat.St
