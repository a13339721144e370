/- One element of a slice of the call's own is stored. -/
import Derived.Test.YtlamhfbdeinkkaeGreatStSo
import Derived.Laws.CopyRow
import Derived.Laws.IdiomCopy
namespace Go.Proofs.YtlamhfbdeinkkaeGreat.St
open Go.RowKit Bk
set_option linter.unusedSimpArgs false
set_option linter.unusedVariables false
set_option maxRecDepth 10000

/-- Cells stored one by one, as a row that is laid anew. -/
theorem setCells_row (w : World) (g o : Nat) (t : TypeId) (vs : List Value) (cur : Array Value) (hg : w.heap[g]? = some (.cells cur t (0, 0))) (hl : o + vs.length ≤ cur.size) (h1 : ∀ v ∈ vs, v.oneCell' = true) :
    w.setCells g o vs = w.setRow g (cur.toList.take o ++ vs ++ cur.toList.drop (o + vs.length)).toArray := by
  have hc : ∀ j, j < vs.length → (w.cell? ⟨g, o + 0 + j, none⟩).isSome = true := fun j hj => by
    rw [cell_of_row w g (o + 0 + j) cur t (0, 0) hg, Array.getElem?_eq_getElem (by omega)]
    rfl
  have hf : ∀ j, j < vs.length → w.frozen? ⟨g, o + 0 + j, none⟩ = false := fun j hj => by simp [World.frozen?, hg]
  have e1 := run_storeCells_cells (P := Tryz.prog) g o vs 0 w hc hf h1
  have e2 := run_storeCells_at (P := Tryz.prog) g o t vs 0 cur w hg (by omega) h1
  rw [e1] at e2
  simp only [Nat.add_zero] at e2
  injection e2

section
variable {α : Type} {cells : α → List Value} {size : Nat} {e : TypeId}
theorem flat_set (hc : ∀ x, (cells x).length = size) (l : List α) (k : Nat) (y : α) (hk : k < l.length) : (l.set k y).flatMap cells = (l.flatMap cells).take (k * size) ++ cells y ++ (l.flatMap cells).drop (k * size + size) := by
  induction l generalizing k with
  | nil => simp at hk
  | cons x t ih =>
    cases k with
    | zero =>
      have := hc x
      simp [List.flatMap_cons, List.drop_append, this]
    | succ k =>
      have hx := hc x
      rw [List.set_cons_succ, List.flatMap_cons, List.flatMap_cons, ih k (by simpa using hk)]
      have em : (k + 1) * size = size + k * size := by rw [Nat.succ_mul]; omega
      rw [em]
      generalize k * size = m
      generalize t.flatMap cells = F
      have e1 : (cells x ++ F).take (size + m) = cells x ++ F.take m := by
        rw [List.take_append, List.take_of_length_le (by omega), hx]
        congr 2
        omega
      have e2 : (cells x ++ F).drop (size + m + size) = F.drop (m + size) := by
        rw [List.drop_append, List.drop_of_length_le (by omega), hx, List.nil_append]
        congr 1
        omega
      rw [e1, e2]
      simp [List.append_assoc]
theorem take_put {A B C : List Value} {o n M : Nat} (hA : A.length = M) (ho : o + n ≤ M) (hB : B.length = n) (hC : M ≤ C.length) (hAC : A = C.take M) : ((C.take o ++ B) ++ C.drop (o + n)).take M = A.take o ++ B ++ A.drop (o + n) := by
  subst hAC
  have h1 : (C.take o).length = o := by rw [List.length_take]; omega
  rw [List.take_append, List.take_of_length_le (by rw [List.length_append]; omega), List.length_append, h1, hB, List.take_take, Nat.min_eq_left (by omega), List.drop_take]
/-- A store of one element. -/
theorem own_put (hc : ∀ x, (cells x).length = size) (h1c : ∀ x, ∀ u ∈ cells x, u.oneCell' = true) {w : World} {base g cap : Nat} {l : List α} (h : OwnC cells size e w base (.slice (some ⟨g, 0, none⟩) l.length cap) l) (k : Nat) (y : α) (hk : k < l.length) :
    OwnC cells size e (w.setCells g (k * size) (cells y)) base (.slice (some ⟨g, 0, none⟩) (l.set k y).length cap) (l.set k y) ∧ w.grownBy (w.setCells g (k * size) (cells y)) (some g) := by
  obtain ⟨hx, h2⟩ := h
  rcases h2 with ⟨h3, _⟩ | ⟨g', cap', cur, hv, hgb, hh, hn, hcm, hsz, htk⟩
  · simp at h3
  · simp only [Value.slice.injEq, Option.some.injEq, Addr.mk.injEq, and_true] at hv
    obtain ⟨rfl, _, rfl⟩ := hv
    have hkm : k * size + size ≤ l.length * size := by
      have := Nat.mul_le_mul_right size (show k + 1 ≤ l.length by omega)
      rw [Nat.succ_mul] at this
      exact this
    have hlm : l.length * size ≤ cap * size := Nat.mul_le_mul_right size hn
    have er := setCells_row w g (k * size) e (cells y) cur hh (by rw [hc, hsz]; omega) (h1c y)
    rw [er]
    refine ⟨⟨?_, Or.inr ⟨g, cap, _, by simp, hgb, setRow_heap w g cur _ e (0, 0) hh, by simpa using hn, hcm, ?_, ?_⟩⟩, ?_⟩
    · rw [flatC_len hc]
    · simp only [List.size_toArray, List.length_append, List.length_take, List.length_drop, Array.length_toList, hc, hsz]
      omega
    · rw [List.length_set, flat_set hc l k y hk]
      have hcl : cur.toList.length = cap * size := by simpa using hsz
      rw [hc]
      exact take_put (flatC_len hc l) hkm (hc y) (by omega) htk.symm
    · exact ⟨rfl, rfl, rfl, by simp, fun i hi hne => setRow_other w g i _ (fun e => hne (by rw [e]))⟩
end

end Go.Proofs.YtlamhfbdeinkkaeGreat.St
