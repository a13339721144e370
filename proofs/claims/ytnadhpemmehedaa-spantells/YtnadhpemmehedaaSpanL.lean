/- Plain facts: what is added is taken again. -/
import Derived.Test.YtnadhpemmehedaaSpanJ
namespace Go.Proofs.Ytnadhpemmehedaa
set_option linter.unusedSimpArgs false
set_option linter.unusedVariables false

def P.ins (f t : Int) : List (Int × Int) → List (Int × Int)
  | [] => [(f, t)]
  | s :: l => if f < s.1 then (f, t) :: s :: l else s :: P.ins f t l

theorem ins_eq (f t : Int) (l : List (Int × Int)) : l.take (P.addAt l f) ++ (f, t) :: l.drop (P.addAt l f) = P.ins f t l := by
  induction l with
  | nil => rfl
  | cons s l ih =>
    unfold P.addAt at ih ⊢
    rw [List.findIdx_cons, P.ins]
    by_cases h : f < s.1
    · simp [h]
    · simp [h]
      exact ih

theorem mem_ins {f t : Int} {l : List (Int × Int)} {x : Int × Int} : x ∈ P.ins f t l ↔ x = (f, t) ∨ x ∈ l := by
  rw [← ins_eq]
  rw [List.mem_append, List.mem_cons]
  constructor
  · rintro (h | h | h)
    · exact .inr (List.mem_of_mem_take h)
    · exact .inl h
    · exact .inr (List.mem_of_mem_drop h)
  · rintro (h | h)
    · exact .inr (.inl h)
    · rw [← List.take_append_drop (P.addAt l f) l, List.mem_append] at h
      rcases h with h | h
      · exact .inl h
      · exact .inr (.inr h)

theorem not_meet {a b c d : Int} (h : P.meet a b c d = false) : d ≤ a ∨ b ≤ c := by
  simp [P.meet] at h
  omega

theorem chk_ok {f t n : Int} (h0 : 0 ≤ f) (h1 : f < t) (h2 : t ≤ n) (hs : P.sails n = true) : P.chk f t n = 0 := by
  unfold P.chk
  rw [if_neg (by simp [hs]; omega), if_neg (by omega)]

theorem cal_ins {n e f t : Int} {l : List (Int × Int)} (hc : P.chk f t n = 0) (h : P.cal n e l = 0) (he : e ≤ f) (hm : ∀ s ∈ l, P.meet s.1 s.2 f t = false) : P.cal n e (P.ins f t l) = 0 := by
  have hz := chk_zero hc
  induction l generalizing e with
  | nil => rw [P.ins, P.cal, if_pos hc, if_neg (by simp; omega), P.cal]
  | cons s l ih =>
    obtain ⟨h1, h2, h3, h4, h5⟩ := cal_cons h
    have hms := not_meet (hm s (by simp))
    have hcs := chk_ok h1 h2 h3 hz.2.2.2.2.2
    rw [P.ins]
    split
    · rw [P.cal, if_pos hc, if_neg (by simp; omega), P.cal, if_pos hcs, if_neg (by simp; omega)]
      exact h5
    · rw [P.cal, if_pos hcs, if_neg (by omega)]
      exact ih h5 (by omega) (fun x hx => hm x (by simp [hx]))

theorem add_ok {l : List (Int × Int)} {n f t : Int} (h : P.addE l n f t = 0) : P.calendar l n = 0 ∧ P.chk f t n = 0 ∧ (∀ s ∈ l, P.meet s.1 s.2 f t = false) ∧ P.addL l n f t = P.ins f t l := by
  have hl : P.addL l n f t = P.ins f t l := by rw [P.addL, if_pos h, ins_eq]
  unfold P.addE at h
  split at h
  · rename_i hb
    split at h
    · omega
    · rename_i hm
      unfold P.both at hb
      split at hb
      · rename_i hc
        refine ⟨hc, hb, fun s hs => ?_, hl⟩
        have := List.findIdx_le_length (p := fun s => P.meet s.1 s.2 f t) (xs := l)
        have e := List.findIdx_eq_length.1 (show l.findIdx (fun s => P.meet s.1 s.2 f t) = l.length by omega) s hs
        simpa using e
      · contradiction
  · contradiction

theorem meet_self {n f t : Int} (hc : P.chk f t n = 0) : P.meet f t f t = true := by
  have := chk_zero hc
  simp [P.meet]
  omega

theorem ins_calendar {l : List (Int × Int)} {n f t : Int} (h : P.addE l n f t = 0) : P.calendar (P.ins f t l) n = 0 := by
  obtain ⟨h1, h2, h3, _⟩ := add_ok h
  obtain ⟨_, hc, hs⟩ := calendar_len h1
  have hz := chk_zero h2
  rw [P.calendar, if_pos hs]
  exact cal_ins h2 hc (by omega) h3

theorem ins_both {l : List (Int × Int)} {n f t : Int} (h : P.addE l n f t = 0) : P.both (P.ins f t l) n f t = 0 := by
  rw [P.both, if_pos (ins_calendar h)]
  exact (add_ok h).2.1

theorem ins_addE {l : List (Int × Int)} {n f t : Int} (h : P.addE l n f t = 0) : P.addE (P.ins f t l) n f t = 6 := by
  rw [P.addE, if_pos (ins_both h), if_pos]
  rw [List.findIdx_lt_length]
  exact ⟨(f, t), mem_ins.2 (.inl rfl), meet_self (add_ok h).2.1⟩

theorem same_ins {f t n : Int} {l : List (Int × Int)} (hc : P.chk f t n = 0) (hm : ∀ s ∈ l, P.meet s.1 s.2 f t = false) : P.sameAt (P.ins f t l) f t < (P.ins f t l).length ∧ (P.ins f t l).take (P.sameAt (P.ins f t l) f t) ++ (P.ins f t l).drop (P.sameAt (P.ins f t l) f t + 1) = l := by
  induction l with
  | nil => simp [P.ins, P.sameAt]
  | cons s l ih =>
    rw [P.ins]
    split
    · simp [P.sameAt, List.findIdx_cons]
    · have hne : ¬ (s.1, s.2) = (f, t) := by
        intro e
        simp at e
        have := hm s (by simp)
        rw [e.1, e.2, meet_self hc] at this
        cases this
      obtain ⟨i1, i2⟩ := ih (fun x hx => hm x (by simp [hx]))
      unfold P.sameAt at i1 i2 ⊢
      rw [List.findIdx_cons, decide_eq_false hne]
      simp
      exact ⟨mem_ins.2 (.inl rfl), by simpa using i2⟩

theorem ins_takeE {l : List (Int × Int)} {n f t : Int} (h : P.addE l n f t = 0) : P.takeE (P.ins f t l) n f t = 0 ∧ P.takeL (P.ins f t l) n f t = l := by
  obtain ⟨h1, h2, h3, _⟩ := add_ok h
  obtain ⟨s1, s2⟩ := same_ins h2 h3
  have e : P.takeE (P.ins f t l) n f t = 0 := by rw [P.takeE, if_pos (ins_both h), if_pos s1]
  exact ⟨e, by rw [P.takeL, if_pos e, s2]⟩

theorem cal_mem {n e : Int} {l : List (Int × Int)} (h : P.cal n e l = 0) {s : Int × Int} (hs : s ∈ l) : 0 ≤ s.1 ∧ s.1 < s.2 ∧ s.2 ≤ n := by
  induction l generalizing e with
  | nil => simp at hs
  | cons x l ih =>
    obtain ⟨h1, h2, h3, h4, h5⟩ := cal_cons h
    rcases List.mem_cons.1 hs with rfl | hs
    · exact ⟨h1, h2, h3⟩
    · exact ih h5 hs

/-- Add answers ErrTwice: all is right, and one of the list meets. -/
theorem add_six {l : List (Int × Int)} {n f t : Int} (h : P.addE l n f t = 6) : P.calendar l n = 0 ∧ P.chk f t n = 0 ∧ ∃ s ∈ l, P.meet s.1 s.2 f t = true := by
  unfold P.addE at h
  split at h
  · rename_i hb
    split at h
    · rename_i hm
      unfold P.both at hb
      split at hb
      · rename_i hc
        exact ⟨hc, hb, List.findIdx_lt_length.1 hm⟩
      · contradiction
    · omega
  · rename_i hb
    exfalso
    have c1 : ∀ a b m : Int, P.chk a b m ≠ 6 := by intro a b m; unfold P.chk; split <;> (try split) <;> omega
    have c2 : ∀ (m e : Int) (l : List (Int × Int)), P.cal m e l ≠ 6 := by
      intro m e l
      induction l generalizing e with
      | nil => simp [P.cal]
      | cons x l ih =>
        rw [P.cal]
        split
        · split
          · omega
          · exact ih _
        · exact c1 _ _ _
    have c3 : P.calendar l n ≠ 6 := by
      unfold P.calendar
      split
      · exact c2 _ _ _
      · omega
    unfold P.both at h
    split at h
    · exact c1 _ _ _ h
    · exact c3 h

end Go.Proofs.Ytnadhpemmehedaa
