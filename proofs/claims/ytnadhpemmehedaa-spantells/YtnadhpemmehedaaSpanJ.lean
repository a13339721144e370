/- Plain facts on free spans: each leg is of one span or of one that is free; free ones lie apart. -/
import Derived.Test.YtnadhpemmehedaaSpanI
namespace Go.Proofs.Ytnadhpemmehedaa
set_option linter.unusedSimpArgs false
set_option linter.unusedVariables false

def P.has (i : Int) (s : Int × Int) : Bool := decide (s.1 ≤ i) && decide (i < s.2)
def P.cnt (i : Int) (l : List (Int × Int)) : Nat := l.countP (P.has i)

theorem cnt_nil (i : Int) : P.cnt i [] = 0 := rfl
theorem cnt_cons (i : Int) (s : Int × Int) (l : List (Int × Int)) : P.cnt i (s :: l) = P.cnt i l + (if P.has i s = true then 1 else 0) := by
  unfold P.cnt; rw [List.countP_cons]
theorem cnt_append (i : Int) (a b : List (Int × Int)) : P.cnt i (a ++ b) = P.cnt i a + P.cnt i b := by
  unfold P.cnt; rw [List.countP_append]
theorem cnt_gap (i : Int) (acc : List (Int × Int)) (a b : Int) (h : a ≤ b) : P.cnt i (P.gap acc a b) = P.cnt i acc + (if a ≤ i ∧ i < b then 1 else 0) := by
  unfold P.gap
  split
  · rw [if_neg (by omega)]; omega
  · rw [cnt_append, cnt_cons, cnt_nil]
    simp [P.has]

theorem cal_cons {n e : Int} {s : Int × Int} {l : List (Int × Int)} (h : P.cal n e (s :: l) = 0) : 0 ≤ s.1 ∧ s.1 < s.2 ∧ s.2 ≤ n ∧ e ≤ s.1 ∧ P.cal n s.2 l = 0 := by
  rw [P.cal] at h
  split at h
  · rename_i hc
    have := chk_zero hc
    split at h
    · omega
    · exact ⟨by omega, by omega, by omega, by omega, h⟩
  · contradiction

theorem cnt_low {n e i : Int} {l : List (Int × Int)} (h : P.cal n e l = 0) (hi : i < e) : P.cnt i l = 0 := by
  induction l generalizing e with
  | nil => rfl
  | cons s l ih =>
    obtain ⟨h1, h2, h3, h4, h5⟩ := cal_cons h
    rw [cnt_cons, ih h5 (by omega)]
    simp [P.has]
    omega

theorem cnt_fr {n e i : Int} {acc l : List (Int × Int)} (h : P.cal n e l = 0) (he : e ≤ n) (hn : i < n) :
    P.cnt i (P.fr n acc e l) + (if e ≤ i then P.cnt i l else 0) = P.cnt i acc + (if e ≤ i then 1 else 0) := by
  induction l generalizing acc e with
  | nil =>
    rw [P.fr, cnt_gap _ _ _ _ he, cnt_nil]
    split <;> split <;> omega
  | cons s l ih =>
    obtain ⟨h1, h2, h3, h4, h5⟩ := cal_cons h
    have := ih (acc := P.gap acc e s.1) h5 h3
    rw [cnt_gap _ _ _ _ h4] at this
    rw [P.fr, cnt_cons]
    have hh : (P.has i s = true) = (s.1 ≤ i ∧ i < s.2) := by simp [P.has]
    simp only [hh]
    by_cases hi : i < s.2
    · have hl := cnt_low h5 hi
      rw [hl] at this ⊢
      repeat' split at this
      all_goals repeat' split
      all_goals omega
    · repeat' split at this
      all_goals repeat' split
      all_goals omega

theorem cnt_free {l : List (Int × Int)} {n i : Int} (h : P.calendar l n = 0) (h0 : 0 ≤ i) (hi : i < n) : P.cnt i l + P.cnt i (P.free l n) = 1 := by
  obtain ⟨_, hc, hs⟩ := calendar_len h
  simp [P.sails] at hs
  have := cnt_fr (acc := []) (i := i) hc (by omega) hi
  rw [if_pos h0, if_pos h0, cnt_nil] at this
  rw [P.free, if_pos h]
  omega

theorem apart_gap {acc : List (Int × Int)} {a b : Int} (h : acc.Pairwise (fun x y => x.2 < y.1)) (hl : ∀ g ∈ acc, g.2 < a) : (P.gap acc a b).Pairwise (fun x y => x.2 < y.1) := by
  unfold P.gap
  split
  · exact h
  · rw [List.pairwise_append]
    exact ⟨h, by simp, fun x hx y hy => by simp at hy; subst hy; exact hl x hx⟩

theorem apart_fr {n e : Int} {acc l : List (Int × Int)} (h : P.cal n e l = 0) (hp : acc.Pairwise (fun x y => x.2 < y.1)) (hl : ∀ g ∈ acc, g.2 < e) : (P.fr n acc e l).Pairwise (fun x y => x.2 < y.1) := by
  induction l generalizing acc e with
  | nil => exact apart_gap hp hl
  | cons s l ih =>
    obtain ⟨h1, h2, h3, h4, h5⟩ := cal_cons h
    rw [P.fr]
    refine ih h5 (apart_gap hp hl) fun g hg => ?_
    unfold P.gap at hg
    split at hg
    · have := hl g hg; omega
    · rw [List.mem_append] at hg
      rcases hg with hg | hg
      · have := hl g hg; omega
      · simp at hg; subst hg; exact h2

theorem apart_free {l : List (Int × Int)} {n : Int} : (P.free l n).Pairwise (fun x y => x.2 < y.1) := by
  unfold P.free
  split
  · rename_i h
    exact apart_fr (calendar_len h).2.1 (by simp) (by simp)
  · simp

theorem fr_len {n e : Int} {acc l : List (Int × Int)} : (P.fr n acc e l).length ≤ acc.length + l.length + 1 := by
  induction l generalizing acc e with
  | nil => exact gap_len _ _ _
  | cons s l ih =>
    rw [P.fr]
    have := @ih s.2 (P.gap acc e s.1)
    have := gap_len acc e s.1
    simp only [List.length_cons]
    omega
theorem free_len (l : List (Int × Int)) (n : Int) : (P.free l n).length ≤ 8 := by
  unfold P.free
  split
  · rename_i h
    have := (calendar_len h).1
    have := @fr_len n 0 [] l
    simp at this
    omega
  · simp

end Go.Proofs.Ytnadhpemmehedaa
