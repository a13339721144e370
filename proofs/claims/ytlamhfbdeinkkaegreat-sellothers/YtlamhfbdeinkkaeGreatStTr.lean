/- StockKept: its mathematics, and its walk. -/
import Derived.Test.YtlamhfbdeinkkaeGreatStSr
import Derived.Laws.CopyRow
import Derived.Laws.IdiomCopy
namespace Go.Proofs.YtlamhfbdeinkkaeGreat.St
open Go.RowKit Bk
set_option linter.unusedSimpArgs false
set_option linter.unusedVariables false
set_option maxRecDepth 10000

end Go.Proofs.YtlamhfbdeinkkaeGreat.St
namespace Go.Proofs.YtlamhfbdeinkkaeGreat.St
open Go.RowKit Bk
set_option linter.unusedSimpArgs false
set_option linter.unusedVariables false
set_option maxRecDepth 10000

/-- Numbers that rise. -/
theorem bksI_rise {s : Vsl} {p : Int} {l : List Bkg} (h : P.bksI s p l = 0) : (∀ b ∈ l, p < b.id) ∧ l.Pairwise (fun a b => a.id < b.id) := by
  induction l generalizing p with
  | nil => simp
  | cons b t ih =>
    rw [P.bksI] at h
    split at h
    · split at h
      · omega
      · rename_i hp
        obtain ⟨i1, i2⟩ := ih h
        refine ⟨fun y hy => ?_, List.pairwise_cons.2 ⟨i1, i2⟩⟩
        rcases List.mem_cons.1 hy with rfl | hy
        · omega
        · have := i1 y hy; omega
    · contradiction
theorem bksI_of {s : Vsl} {p : Int} {l : List Bkg} (hb : ∀ b ∈ l, P.bkE s b = 0) (h1 : ∀ b ∈ l, p < b.id) (h2 : l.Pairwise (fun a b => a.id < b.id)) : P.bksI s p l = 0 := by
  induction l generalizing p with
  | nil => rfl
  | cons b t ih =>
    obtain ⟨p1, p2⟩ := List.pairwise_cons.1 h2
    rw [P.bksI, if_pos (hb b (by simp)), if_neg (by have := h1 b (by simp); omega)]
    exact ih (fun y hy => hb y (by simp [hy])) p1 p2
end Go.Proofs.YtlamhfbdeinkkaeGreat.St
namespace Go.Proofs.YtlamhfbdeinkkaeGreat.St
open Go.RowKit Bk
set_option linter.unusedSimpArgs false
set_option linter.unusedVariables false
set_option maxRecDepth 10000

/-- Cells stored one by one, as a row that is laid anew. -/
theorem setCells_row (w : World) (g o : Nat) (t : TypeId) (vs : List Value) (cur : Array Value) (hg : w.heap[g]? = some (.cells cur t (0, 0))) (hl : o + vs.length ≤ cur.size) (h1 : ∀ v ∈ vs, v.oneCell' = true) :
    w.setCells g o vs = w.setRow g (cur.toList.take o ++ vs ++ cur.toList.drop (o + vs.length)).toArray := by
  have hc : ∀ j, j < vs.length → (w.cell? ⟨g, o + 0 + j, none⟩).isSome = true := fun j hj => by
    rw [cell_of_row w g (o + 0 + j) cur t (0, 0) hg, Array.getElem?_eq_getElem (by omega)]
    rfl
  have hf : ∀ j, j < vs.length → w.frozen? ⟨g, o + 0 + j, none⟩ = false := fun j hj => by simp [World.frozen?, hg]
  have e1 := run_storeCells_cells (P := Tryz.prog) g o vs 0 w hc hf h1
  have e2 := run_storeCells_at (P := Tryz.prog) g o t vs 0 cur w hg (by omega) h1
  rw [e1] at e2
  simp only [Nat.add_zero] at e2
  injection e2

section
variable {α : Type} {cells : α → List Value} {size : Nat} {e : TypeId}
end

end Go.Proofs.YtlamhfbdeinkkaeGreat.St
