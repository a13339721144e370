import Derived.Test.YtlamhfbdeinkkaeGreatSpAs
import Derived.Lib.QuietBelow
import Derived.Deep.Onto
set_option maxRecDepth 10000
/- The walk of spanBegun: what must be in any case is. -/
namespace Go.Proofs.YtlamhfbdeinkkaeGreat.Sp
open Go.RowKit
set_option linter.unusedSimpArgs false
set_option linter.unusedVariables false

end Go.Proofs.YtlamhfbdeinkkaeGreat.Sp
/- Plain facts on free spans: each leg is of one span or of one that is free; free ones lie apart. -/
namespace Go.Proofs.YtlamhfbdeinkkaeGreat.Sp
set_option linter.unusedSimpArgs false
set_option linter.unusedVariables false

def P.has (i : Int) (s : Int × Int) : Bool := decide (s.1 ≤ i) && decide (i < s.2)
def P.cnt (i : Int) (l : List (Int × Int)) : Nat := l.countP (P.has i)

theorem cal_cons {n e : Int} {s : Int × Int} {l : List (Int × Int)} (h : P.cal n e (s :: l) = 0) : 0 ≤ s.1 ∧ s.1 < s.2 ∧ s.2 ≤ n ∧ e ≤ s.1 ∧ P.cal n s.2 l = 0 := by
  rw [P.cal] at h
  split at h
  · rename_i hc
    have := chk_zero hc
    split at h
    · omega
    · exact ⟨by omega, by omega, by omega, by omega, h⟩
  · contradiction

end Go.Proofs.YtlamhfbdeinkkaeGreat.Sp
/- Plain facts: what is added is taken again. -/
namespace Go.Proofs.YtlamhfbdeinkkaeGreat.Sp
set_option linter.unusedSimpArgs false
set_option linter.unusedVariables false

def P.ins (f t : Int) : List (Int × Int) → List (Int × Int)
  | [] => [(f, t)]
  | s :: l => if f < s.1 then (f, t) :: s :: l else s :: P.ins f t l

theorem ins_eq (f t : Int) (l : List (Int × Int)) : l.take (P.addAt l f) ++ (f, t) :: l.drop (P.addAt l f) = P.ins f t l := by
  induction l with
  | nil => rfl
  | cons s l ih =>
    unfold P.addAt at ih ⊢
    rw [List.findIdx_cons, P.ins]
    by_cases h : f < s.1
    · simp [h]
    · simp [h]
      exact ih

theorem mem_ins {f t : Int} {l : List (Int × Int)} {x : Int × Int} : x ∈ P.ins f t l ↔ x = (f, t) ∨ x ∈ l := by
  rw [← ins_eq]
  rw [List.mem_append, List.mem_cons]
  constructor
  · rintro (h | h | h)
    · exact .inr (List.mem_of_mem_take h)
    · exact .inl h
    · exact .inr (List.mem_of_mem_drop h)
  · rintro (h | h)
    · exact .inr (.inl h)
    · rw [← List.take_append_drop (P.addAt l f) l, List.mem_append] at h
      rcases h with h | h
      · exact .inl h
      · exact .inr (.inr h)

theorem not_meet {a b c d : Int} (h : P.meet a b c d = false) : d ≤ a ∨ b ≤ c := by
  simp [P.meet] at h
  omega

theorem chk_ok {f t n : Int} (h0 : 0 ≤ f) (h1 : f < t) (h2 : t ≤ n) (hs : P.sails n = true) : P.chk f t n = 0 := by
  unfold P.chk
  rw [if_neg (by simp [hs]; omega), if_neg (by omega)]

theorem cal_ins {n e f t : Int} {l : List (Int × Int)} (hc : P.chk f t n = 0) (h : P.cal n e l = 0) (he : e ≤ f) (hm : ∀ s ∈ l, P.meet s.1 s.2 f t = false) : P.cal n e (P.ins f t l) = 0 := by
  have hz := chk_zero hc
  induction l generalizing e with
  | nil => rw [P.ins, P.cal, if_pos hc, if_neg (by simp; omega), P.cal]
  | cons s l ih =>
    obtain ⟨h1, h2, h3, h4, h5⟩ := cal_cons h
    have hms := not_meet (hm s (by simp))
    have hcs := chk_ok h1 h2 h3 hz.2.2.2.2.2
    rw [P.ins]
    split
    · rw [P.cal, if_pos hc, if_neg (by simp; omega), P.cal, if_pos hcs, if_neg (by simp; omega)]
      exact h5
    · rw [P.cal, if_pos hcs, if_neg (by omega)]
      exact ih h5 (by omega) (fun x hx => hm x (by simp [hx]))

theorem add_ok {l : List (Int × Int)} {n f t : Int} (h : P.addE l n f t = 0) : P.calendar l n = 0 ∧ P.chk f t n = 0 ∧ (∀ s ∈ l, P.meet s.1 s.2 f t = false) ∧ P.addL l n f t = P.ins f t l := by
  have hl : P.addL l n f t = P.ins f t l := by rw [P.addL, if_pos h, ins_eq]
  unfold P.addE at h
  split at h
  · rename_i hb
    split at h
    · omega
    · rename_i hm
      unfold P.both at hb
      split at hb
      · rename_i hc
        refine ⟨hc, hb, fun s hs => ?_, hl⟩
        have := List.findIdx_le_length (p := fun s => P.meet s.1 s.2 f t) (xs := l)
        have e := List.findIdx_eq_length.1 (show l.findIdx (fun s => P.meet s.1 s.2 f t) = l.length by omega) s hs
        simpa using e
      · contradiction
  · contradiction

theorem ins_calendar {l : List (Int × Int)} {n f t : Int} (h : P.addE l n f t = 0) : P.calendar (P.ins f t l) n = 0 := by
  obtain ⟨h1, h2, h3, _⟩ := add_ok h
  obtain ⟨_, hc, hs⟩ := calendar_len h1
  have hz := chk_zero h2
  rw [P.calendar, if_pos hs]
  exact cal_ins h2 hc (by omega) h3

end Go.Proofs.YtlamhfbdeinkkaeGreat.Sp
/- Walks of the reference's AddSpan and TakeSpan. -/
namespace Go.Proofs.YtlamhfbdeinkkaeGreat.Sp
open Go.RowKit
set_option linter.unusedSimpArgs false
set_option linter.unusedVariables false

theorem Own.below {w w' : World} {base : Nat} {v : Value} {l : List (Int × Int)} (h : Own w base v l) (hb : Below w.heap.size w w') : Own w' base v l := by
  refine ⟨h.1, ?_⟩
  rcases h.2 with h2 | ⟨g, cap, cur, hv, hg, hh, r⟩
  · exact Or.inl h2
  · refine Or.inr ⟨g, cap, cur, hv, hg, ?_, r⟩
    rw [hb.block g (Array.getElem?_eq_some_iff.1 hh).1]
    exact hh

end Go.Proofs.YtlamhfbdeinkkaeGreat.Sp
/- Walks of the reference's TakeSpan, FreeOf and of spansAre. -/
namespace Go.Proofs.YtlamhfbdeinkkaeGreat.Sp
open Go.RowKit
set_option linter.unusedSimpArgs false
set_option linter.unusedVariables false

def P.rest (l : List (Int × Int)) (f t : Int) : List (Int × Int) := l.filter fun s => !decide (s = (f, t))
end Go.Proofs.YtlamhfbdeinkkaeGreat.Sp
/- Plain facts: lists of spans that lie apart are told by their legs; free spans, built leg by leg. -/
namespace Go.Proofs.YtlamhfbdeinkkaeGreat.Sp
set_option linter.unusedSimpArgs false
set_option linter.unusedVariables false

abbrev P.Apart (l : List (Int × Int)) : Prop := l.Pairwise (fun x y => x.2 < y.1)
theorem cnt_zero_of {i : Int} {l : List (Int × Int)} (h : ∀ x ∈ l, ¬ (x.1 ≤ i ∧ i < x.2)) : P.cnt i l = 0 := by
  unfold P.cnt
  rw [List.countP_eq_zero]
  intro x hx hh
  simp [P.has] at hh
  exact h x hx hh

def P.anyHas (i : Int) (l : List (Int × Int)) : Bool := l.any (P.has i)

/-- What has been built behind k legs: 'out', and whether the last of it is open. -/
structure P.Built (l : List (Int × Int)) (k : Nat) (out : List (Int × Int)) (opn : Bool) : Prop where
  apart : P.Apart out
  good : ∀ x ∈ out, 0 ≤ x.1 ∧ x.1 < x.2 ∧ x.2 ≤ k
  legs : ∀ i : Int, 0 ≤ i → i < k → P.cnt i out = if P.anyHas i l = true then 0 else 1
  opened : opn = true → ∃ o x, out = o ++ [(x, (k : Int))]
  shut : opn = false → ∀ x ∈ out, x.2 < k
  len : out.length ≤ k

theorem Built.taken {l : List (Int × Int)} {k : Nat} {out : List (Int × Int)} {opn : Bool} (h : P.Built l k out opn) (ht : P.anyHas k l = true) : P.Built l (k + 1) out false := by
  refine ⟨h.apart, fun x hx => by have := h.good x hx; omega, fun i h1 h2 => ?_, (fun h => by cases h), fun _ x hx => by have := h.good x hx; omega, by have := h.len; omega⟩
  by_cases hi : i < k
  · exact h.legs i h1 hi
  · obtain rfl : i = k := by omega
    rw [if_pos ht]
    exact cnt_zero_of fun x hx hh => by have := h.good x hx; omega

end Go.Proofs.YtlamhfbdeinkkaeGreat.Sp
