/- StockLess: its mathematics. -/
import Derived.Test.YtpjfpgimpgmhcaeGreatStT
namespace Go.Proofs.YtpjfpgimpgmhcaeGreat.St
open Go.RowKit Bk
set_option linter.unusedSimpArgs false
set_option linter.unusedVariables false
set_option maxRecDepth 10000

/-- Spans that lie apart can be added one by one. -/
theorem adds_of {n : Int} {acc r : List (Int × Int)} (hc : Sp.P.calendar acc n = 0) (hk : ∀ y ∈ r, P.chk y.1 y.2 n = 0) (h1 : ∀ z ∈ acc, ∀ y ∈ r, Sp.P.meet z.1 z.2 y.1 y.2 = false) (h2 : r.Pairwise (fun a b => Sp.P.meet a.1 a.2 b.1 b.2 = false)) : P.addsE n acc r = 0 := by
  induction r generalizing acc with
  | nil => rfl
  | cons y r ih =>
    have he : Sp.P.addE acc n y.1 y.2 = 0 := by
      rw [Sp.P.addE, if_pos (both_of hc (hk y (by simp))), if_neg]
      intro hlt
      have := List.findIdx_lt_length.1 hlt
      obtain ⟨z, hz, e⟩ := this
      rw [h1 z hz y (by simp)] at e
      cases e
    rw [P.addsE, if_pos he]
    obtain ⟨p1, p2⟩ := List.pairwise_cons.1 h2
    refine ih (add_cal he) (fun u hu => hk u (by simp [hu])) (fun z hz u hu => ?_) p2
    rw [(Sp.add_ok he).2.2.2] at hz
    rcases Sp.mem_ins.1 hz with rfl | hz
    · exact p1 u hu
    · exact h1 z hz u (by simp [hu])

/-- Numbers that rise. -/
theorem bksI_rise {s : Vsl} {p : Int} {l : List Bkg} (h : P.bksI s p l = 0) : (∀ b ∈ l, p < b.id) ∧ l.Pairwise (fun a b => a.id < b.id) := by
  induction l generalizing p with
  | nil => simp
  | cons b t ih =>
    rw [P.bksI] at h
    split at h
    · split at h
      · omega
      · rename_i hp
        obtain ⟨i1, i2⟩ := ih h
        refine ⟨fun y hy => ?_, List.pairwise_cons.2 ⟨i1, i2⟩⟩
        rcases List.mem_cons.1 hy with rfl | hy
        · omega
        · have := i1 y hy; omega
    · contradiction
theorem bksI_of {s : Vsl} {p : Int} {l : List Bkg} (hb : ∀ b ∈ l, P.bkE s b = 0) (h1 : ∀ b ∈ l, p < b.id) (h2 : l.Pairwise (fun a b => a.id < b.id)) : P.bksI s p l = 0 := by
  induction l generalizing p with
  | nil => rfl
  | cons b t ih =>
    obtain ⟨p1, p2⟩ := List.pairwise_cons.1 h2
    rw [P.bksI, if_pos (hb b (by simp)), if_neg (by have := h1 b (by simp); omega)]
    exact ih (fun y hy => hb y (by simp [hy])) p1 p2
/-- Which edges there are. -/
theorem pedg_iff {s : Vsl} {l m : List Bkg} {i : Nat} {z : Int × Int} : z ∈ P.pedg s l i m ↔ ∃ (j : Nat) (b : Bkg) (c : Nat), (m.filter P.opn)[j]? = some b ∧ z = (((i + j : Nat) : Int), (c : Int)) ∧ c < s.bs.length ∧ P.elC s l b c = true := by
  induction m generalizing i with
  | nil => simp [P.pedg]
  | cons x t ih =>
    rw [P.pedg, List.filter_cons]
    split
    · rw [List.mem_append, ih]
      constructor
      · rintro (h | ⟨j, b, c, h1, h2, h3⟩)
        · obtain ⟨c, hc, rfl⟩ := List.mem_map.1 h
          obtain ⟨hc1, hc2⟩ := List.mem_filter.1 hc
          exact ⟨0, x, c, rfl, rfl, List.mem_range.1 hc1, hc2⟩
        · exact ⟨j + 1, b, c, by simpa using h1, by rw [h2]; congr 1; omega, h3⟩
      · rintro ⟨j, b, c, h1, h2, h3, h4⟩
        cases j with
        | zero =>
          left
          simp at h1
          subst h1
          exact List.mem_map.2 ⟨c, List.mem_filter.2 ⟨List.mem_range.2 h3, h4⟩, h2.symm⟩
        | succ j =>
          right
          exact ⟨j, b, c, by simpa using h1, by rw [h2]; congr 1; omega, h3, h4⟩
    · exact ih
end Go.Proofs.YtpjfpgimpgmhcaeGreat.St
