/- stockBegun. -/
import Derived.Test.YtlamhfbdeinkkaeGreatStRs
import Derived.Laws.CopyRow
import Derived.Laws.IdiomCopy
namespace Go.Proofs.YtlamhfbdeinkkaeGreat.St
open Go.RowKit Bk
set_option linter.unusedSimpArgs false
set_option linter.unusedVariables false
set_option maxRecDepth 10000

def T.B1 : Bkg := ⟨10, 2, 1, 2, false, -1, 0, 0, 3, 4, []⟩
theorem t_pre : P.pre T.C = 0 ∧ P.twice T.C = false ∧ P.many T.C = false := by decide +kernel
theorem t_ids : P.pids T.C.bks = [9] ∧ P.pedg T.C.s T.C.bks 0 T.C.bks = [(0, 0), (0, 2)] := by decide +kernel
theorem t_max : Ma.MaxM [(0, 0), (0, 2)] 1 := by
  refine ⟨⟨[(0, 0)], ⟨by simp, by simp⟩, rfl⟩, fun m hm => ?_⟩
  obtain ⟨h1, h2⟩ := hm
  match m with
  | [] => simp
  | [_] => simp
  | x :: y :: t =>
    exfalso
    have hx := h1 x (by simp)
    have hy := h1 y (by simp)
    have h := (List.pairwise_cons.1 h2).1 y (by simp)
    have e1 : x.1 = 0 := by simp at hx; rcases hx with rfl | rfl <;> rfl
    have e2 : y.1 = 0 := by simp at hy; rcases hy with rfl | rfl <;> rfl
    exact h.1 (by rw [e1, e2])
theorem t_sail : P.SailE T.C 0 := .inr ⟨t_pre.1, 0, .inr (.inr ⟨t_pre.2.1, t_pre.2.2, 1, by rw [t_ids.2]; exact t_max, by rw [t_ids.1]; rfl⟩), rfl⟩
end Go.Proofs.YtlamhfbdeinkkaeGreat.St
namespace Go.Proofs.YtlamhfbdeinkkaeGreat.St
open Go.RowKit Bk
set_option linter.unusedSimpArgs false
set_option linter.unusedVariables false
set_option maxRecDepth 10000

theorem meet_comm (a b c d : Int) : Sp.P.meet a b c d = Sp.P.meet c d a b := by rw [Sp.P.meet, Sp.P.meet, Bool.and_comm]
theorem adds_apart {n : Int} {acc r : List (Int × Int)} (h : P.addsE n acc r = 0) : (∀ z ∈ acc, ∀ y ∈ r, Sp.P.meet z.1 z.2 y.1 y.2 = false) ∧ r.Pairwise (fun a b => Sp.P.meet a.1 a.2 b.1 b.2 = false) := by
  induction r generalizing acc with
  | nil => simp
  | cons y r ih =>
    rw [P.addsE] at h
    split at h
    · rename_i he
      obtain ⟨_, _, h3, h4⟩ := Sp.add_ok he
      rw [h4] at h
      obtain ⟨i1, i2⟩ := ih h
      refine ⟨fun z hz u hu => ?_, List.pairwise_cons.2 ⟨fun u hu => i1 (y.1, y.2) (Sp.mem_ins.2 (.inl rfl)) u hu, i2⟩⟩
      rcases List.mem_cons.1 hu with rfl | hu
      · exact h3 z hz
      · exact i1 z (Sp.mem_ins.2 (.inr hz)) u hu
    · contradiction
end Go.Proofs.YtlamhfbdeinkkaeGreat.St
namespace Go.Proofs.YtlamhfbdeinkkaeGreat.St
open Go.RowKit Bk
set_option linter.unusedSimpArgs false
set_option linter.unusedVariables false
set_option maxRecDepth 10000

/-- Spans that lie apart can be added one by one. -/
theorem adds_of {n : Int} {acc r : List (Int × Int)} (hc : Sp.P.calendar acc n = 0) (hk : ∀ y ∈ r, P.chk y.1 y.2 n = 0) (h1 : ∀ z ∈ acc, ∀ y ∈ r, Sp.P.meet z.1 z.2 y.1 y.2 = false) (h2 : r.Pairwise (fun a b => Sp.P.meet a.1 a.2 b.1 b.2 = false)) : P.addsE n acc r = 0 := by
  induction r generalizing acc with
  | nil => rfl
  | cons y r ih =>
    have he : Sp.P.addE acc n y.1 y.2 = 0 := by
      rw [Sp.P.addE, if_pos (both_of hc (hk y (by simp))), if_neg]
      intro hlt
      have := List.findIdx_lt_length.1 hlt
      obtain ⟨z, hz, e⟩ := this
      rw [h1 z hz y (by simp)] at e
      cases e
    rw [P.addsE, if_pos he]
    obtain ⟨p1, p2⟩ := List.pairwise_cons.1 h2
    refine ih (add_cal he) (fun u hu => hk u (by simp [hu])) (fun z hz u hu => ?_) p2
    rw [(Sp.add_ok he).2.2.2] at hz
    rcases Sp.mem_ins.1 hz with rfl | hz
    · exact p1 u hu
    · exact h1 z hz u (by simp [hu])

/-- Numbers that rise. -/
theorem bksI_rise {s : Vsl} {p : Int} {l : List Bkg} (h : P.bksI s p l = 0) : (∀ b ∈ l, p < b.id) ∧ l.Pairwise (fun a b => a.id < b.id) := by
  induction l generalizing p with
  | nil => simp
  | cons b t ih =>
    rw [P.bksI] at h
    split at h
    · split at h
      · omega
      · rename_i hp
        obtain ⟨i1, i2⟩ := ih h
        refine ⟨fun y hy => ?_, List.pairwise_cons.2 ⟨i1, i2⟩⟩
        rcases List.mem_cons.1 hy with rfl | hy
        · omega
        · have := i1 y hy; omega
    · contradiction
theorem bksI_of {s : Vsl} {p : Int} {l : List Bkg} (hb : ∀ b ∈ l, P.bkE s b = 0) (h1 : ∀ b ∈ l, p < b.id) (h2 : l.Pairwise (fun a b => a.id < b.id)) : P.bksI s p l = 0 := by
  induction l generalizing p with
  | nil => rfl
  | cons b t ih =>
    obtain ⟨p1, p2⟩ := List.pairwise_cons.1 h2
    rw [P.bksI, if_pos (hb b (by simp)), if_neg (by have := h1 b (by simp); omega)]
    exact ih (fun y hy => hb y (by simp [hy])) p1 p2
/-- Which edges there are. -/
theorem pedg_iff {s : Vsl} {l m : List Bkg} {i : Nat} {z : Int × Int} : z ∈ P.pedg s l i m ↔ ∃ (j : Nat) (b : Bkg) (c : Nat), (m.filter P.opn)[j]? = some b ∧ z = (((i + j : Nat) : Int), (c : Int)) ∧ c < s.bs.length ∧ P.elC s l b c = true := by
  induction m generalizing i with
  | nil => simp [P.pedg]
  | cons x t ih =>
    rw [P.pedg, List.filter_cons]
    split
    · rw [List.mem_append, ih]
      constructor
      · rintro (h | ⟨j, b, c, h1, h2, h3⟩)
        · obtain ⟨c, hc, rfl⟩ := List.mem_map.1 h
          obtain ⟨hc1, hc2⟩ := List.mem_filter.1 hc
          exact ⟨0, x, c, rfl, rfl, List.mem_range.1 hc1, hc2⟩
        · exact ⟨j + 1, b, c, by simpa using h1, by rw [h2]; congr 1; omega, h3⟩
      · rintro ⟨j, b, c, h1, h2, h3, h4⟩
        cases j with
        | zero =>
          left
          simp at h1
          subst h1
          exact List.mem_map.2 ⟨c, List.mem_filter.2 ⟨List.mem_range.2 h3, h4⟩, h2.symm⟩
        | succ j =>
          right
          exact ⟨j, b, c, by simpa using h1, by rw [h2]; congr 1; omega, h3, h4⟩
    · exact ih
end Go.Proofs.YtlamhfbdeinkkaeGreat.St
namespace Go.Proofs.YtlamhfbdeinkkaeGreat.St
open Go.RowKit Bk
set_option linter.unusedSimpArgs false
set_option linter.unusedVariables false
set_option maxRecDepth 10000

/-- Cells stored one by one, as a row that is laid anew. -/
theorem setCells_row (w : World) (g o : Nat) (t : TypeId) (vs : List Value) (cur : Array Value) (hg : w.heap[g]? = some (.cells cur t (0, 0))) (hl : o + vs.length ≤ cur.size) (h1 : ∀ v ∈ vs, v.oneCell' = true) :
    w.setCells g o vs = w.setRow g (cur.toList.take o ++ vs ++ cur.toList.drop (o + vs.length)).toArray := by
  have hc : ∀ j, j < vs.length → (w.cell? ⟨g, o + 0 + j, none⟩).isSome = true := fun j hj => by
    rw [cell_of_row w g (o + 0 + j) cur t (0, 0) hg, Array.getElem?_eq_getElem (by omega)]
    rfl
  have hf : ∀ j, j < vs.length → w.frozen? ⟨g, o + 0 + j, none⟩ = false := fun j hj => by simp [World.frozen?, hg]
  have e1 := run_storeCells_cells (P := Tryz.prog) g o vs 0 w hc hf h1
  have e2 := run_storeCells_at (P := Tryz.prog) g o t vs 0 cur w hg (by omega) h1
  rw [e1] at e2
  simp only [Nat.add_zero] at e2
  injection e2

section
variable {α : Type} {cells : α → List Value} {size : Nat} {e : TypeId}
end

end Go.Proofs.YtlamhfbdeinkkaeGreat.St
