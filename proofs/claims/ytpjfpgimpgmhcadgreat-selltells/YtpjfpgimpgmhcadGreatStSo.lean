/- stockBegun. -/
import Derived.Test.YtpjfpgimpgmhcadGreatStRo
namespace Go.Proofs.YtpjfpgimpgmhcadGreat.St
open Go.RowKit Bk
set_option linter.unusedSimpArgs false
set_option linter.unusedVariables false
set_option maxRecDepth 10000

def T.B1 : Bkg := ⟨10, 2, 1, 2, false, -1, 0, 0, 3, 4, []⟩
theorem t_pre : P.pre T.C = 0 ∧ P.twice T.C = false ∧ P.many T.C = false := by decide +kernel
theorem t_ids : P.pids T.C.bks = [9] ∧ P.pedg T.C.s T.C.bks 0 T.C.bks = [(0, 0), (0, 2)] := by decide +kernel
theorem t_max : Ma.MaxM [(0, 0), (0, 2)] 1 := by
  refine ⟨⟨[(0, 0)], ⟨by simp, by simp⟩, rfl⟩, fun m hm => ?_⟩
  obtain ⟨h1, h2⟩ := hm
  match m with
  | [] => simp
  | [_] => simp
  | x :: y :: t =>
    exfalso
    have hx := h1 x (by simp)
    have hy := h1 y (by simp)
    have h := (List.pairwise_cons.1 h2).1 y (by simp)
    have e1 : x.1 = 0 := by simp at hx; rcases hx with rfl | rfl <;> rfl
    have e2 : y.1 = 0 := by simp at hy; rcases hy with rfl | rfl <;> rfl
    exact h.1 (by rw [e1, e2])
theorem t_sail : P.SailE T.C 0 := .inr ⟨t_pre.1, 0, .inr (.inr ⟨t_pre.2.1, t_pre.2.2, 1, by rw [t_ids.2]; exact t_max, by rw [t_ids.1]; rfl⟩), rfl⟩
end Go.Proofs.YtpjfpgimpgmhcadGreat.St
namespace Go.Proofs.YtpjfpgimpgmhcadGreat.St
open Go.RowKit Bk
set_option linter.unusedSimpArgs false
set_option linter.unusedVariables false
set_option maxRecDepth 10000

theorem isM_le {E m : List (Int × Int)} {n : Nat} (hE : ∀ x ∈ E, 0 ≤ x.1 ∧ x.1 < (n : Int)) (hm : Ma.IsM E m) : m.length ≤ n := by
  have hnd : (m.map (fun z => z.1)).Nodup := by
    rw [List.nodup_iff_pairwise_ne, List.pairwise_map]
    refine (List.pairwise_iff_getElem.2 fun i j hi hj hij => ?_)
    exact (List.pairwise_iff_getElem.1 hm.2 i j hi hj hij).1
  have := Ma.pigeon n _ hnd (fun x hx => by
    obtain ⟨z, hz, rfl⟩ := List.mem_map.1 hx
    exact hE z (hm.1 z hz))
  simpa using this
theorem pedg_left {x : Sail} : ∀ z ∈ P.pedg x.s x.bks 0 x.bks, 0 ≤ z.1 ∧ z.1 < ((P.pids x.bks).length : Int) := fun z hz => by
  have := pedg_mem hz
  rw [pids_len]
  omega
end Go.Proofs.YtpjfpgimpgmhcadGreat.St
namespace Go.Proofs.YtpjfpgimpgmhcadGreat.St
open Go.RowKit Bk
set_option linter.unusedSimpArgs false
set_option linter.unusedVariables false
set_option maxRecDepth 10000

/-- Numbers that rise. -/
theorem bksI_rise {s : Vsl} {p : Int} {l : List Bkg} (h : P.bksI s p l = 0) : (∀ b ∈ l, p < b.id) ∧ l.Pairwise (fun a b => a.id < b.id) := by
  induction l generalizing p with
  | nil => simp
  | cons b t ih =>
    rw [P.bksI] at h
    split at h
    · split at h
      · omega
      · rename_i hp
        obtain ⟨i1, i2⟩ := ih h
        refine ⟨fun y hy => ?_, List.pairwise_cons.2 ⟨i1, i2⟩⟩
        rcases List.mem_cons.1 hy with rfl | hy
        · omega
        · have := i1 y hy; omega
    · contradiction
theorem bksI_of {s : Vsl} {p : Int} {l : List Bkg} (hb : ∀ b ∈ l, P.bkE s b = 0) (h1 : ∀ b ∈ l, p < b.id) (h2 : l.Pairwise (fun a b => a.id < b.id)) : P.bksI s p l = 0 := by
  induction l generalizing p with
  | nil => rfl
  | cons b t ih =>
    obtain ⟨p1, p2⟩ := List.pairwise_cons.1 h2
    rw [P.bksI, if_pos (hb b (by simp)), if_neg (by have := h1 b (by simp); omega)]
    exact ih (fun y hy => hb y (by simp [hy])) p1 p2
end Go.Proofs.YtpjfpgimpgmhcadGreat.St
