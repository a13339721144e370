/- Plain facts: lists of spans that lie apart are told by their legs; free spans, built leg by leg. -/
import Derived.Test.YtnadhpemmehedaaSpanO
namespace Go.Proofs.Ytnadhpemmehedaa
set_option linter.unusedSimpArgs false
set_option linter.unusedVariables false

abbrev P.Apart (l : List (Int × Int)) : Prop := l.Pairwise (fun x y => x.2 < y.1)
abbrev P.Good (l : List (Int × Int)) : Prop := ∀ x ∈ l, x.1 < x.2

theorem cnt_zero_of {i : Int} {l : List (Int × Int)} (h : ∀ x ∈ l, ¬ (x.1 ≤ i ∧ i < x.2)) : P.cnt i l = 0 := by
  unfold P.cnt
  rw [List.countP_eq_zero]
  intro x hx hh
  simp [P.has] at hh
  exact h x hx hh

theorem apart_tail {a : Int × Int} {l : List (Int × Int)} (h : P.Apart (a :: l)) {i : Int} (hi : i ≤ a.2) : P.cnt i l = 0 := by
  refine cnt_zero_of fun x hx hh => ?_
  have := List.rel_of_pairwise_cons h hx
  omega

theorem apart_uniq {A B : List (Int × Int)} (hA : P.Apart A) (hB : P.Apart B) (gA : P.Good A) (gB : P.Good B) (h : ∀ i, P.cnt i A = P.cnt i B) : A = B := by
  induction A generalizing B with
  | nil =>
    cases B with
    | nil => rfl
    | cons b B =>
      have h1 := h b.1
      have h2 := gB b (by simp)
      rw [cnt_nil, cnt_cons, if_pos (by simp [P.has]; omega)] at h1
      omega
  | cons a A ih =>
    have ga := gA a (by simp)
    cases B with
    | nil =>
      have h1 := h a.1
      rw [cnt_nil, cnt_cons, if_pos (by simp [P.has]; omega)] at h1
      omega
    | cons b B =>
      have gb := gB b (by simp)
      have low : ∀ {x : Int × Int} {l : List (Int × Int)}, P.Apart (x :: l) → x.1 < x.2 → ∀ i, i < x.1 → P.cnt i (x :: l) = 0 := by
        intro x l hx gx i hi
        rw [cnt_cons, if_neg (by simp [P.has]; omega), apart_tail hx (by omega)]
      have top : ∀ {x : Int × Int} {l : List (Int × Int)}, P.Apart (x :: l) → P.cnt x.2 (x :: l) = 0 := by
        intro x l hx
        rw [cnt_cons, if_neg (by simp [P.has]), apart_tail hx (by omega)]
      have inn : ∀ {x : Int × Int} {l : List (Int × Int)} {i : Int}, x.1 ≤ i → i < x.2 → 0 < P.cnt i (x :: l) := by
        intro x l i h1 h2
        rw [cnt_cons, if_pos (by simp [P.has]; omega)]
        omega
      have e1 : a.1 = b.1 := by
        rcases Int.lt_trichotomy a.1 b.1 with c | c | c
        · have := low hB gb a.1 c
          have := inn (l := A) (Int.le_refl a.1) ga
          have := h a.1
          omega
        · exact c
        · have := low hA ga b.1 c
          have := inn (l := B) (Int.le_refl b.1) gb
          have := h b.1
          omega
      have e2 : a.2 = b.2 := by
        rcases Int.lt_trichotomy a.2 b.2 with c | c | c
        · have := top hA
          have := inn (x := b) (l := B) (i := a.2) (by omega) c
          have := h a.2
          omega
        · exact c
        · have := top hB
          have := inn (x := a) (l := A) (i := b.2) (by omega) c
          have := h b.2
          omega
      have e : a = b := Prod.ext e1 e2
      subst e
      congr 1
      refine ih (List.Pairwise.of_cons hA) (List.Pairwise.of_cons hB) (fun x hx => gA x (by simp [hx])) (fun x hx => gB x (by simp [hx])) fun i => ?_
      have := h i
      rw [cnt_cons, cnt_cons] at this
      omega

theorem fr_good {n e : Int} {acc l : List (Int × Int)} (h : P.cal n e l = 0) (h0 : 0 ≤ e) (he : e ≤ n) (ha : ∀ x ∈ acc, 0 ≤ x.1 ∧ x.1 < x.2 ∧ x.2 ≤ n) : ∀ x ∈ P.fr n acc e l, 0 ≤ x.1 ∧ x.1 < x.2 ∧ x.2 ≤ n := by
  have gap : ∀ {acc : List (Int × Int)} {a b : Int}, (∀ x ∈ acc, 0 ≤ x.1 ∧ x.1 < x.2 ∧ x.2 ≤ n) → 0 ≤ a → a ≤ b → b ≤ n → ∀ x ∈ P.gap acc a b, 0 ≤ x.1 ∧ x.1 < x.2 ∧ x.2 ≤ n := by
    intro acc a b ha h1 h2 h3 x hx
    unfold P.gap at hx
    split at hx
    · exact ha x hx
    · rw [List.mem_append] at hx
      rcases hx with hx | hx
      · exact ha x hx
      · simp at hx; subst hx; simp; omega
  induction l generalizing acc e with
  | nil => exact gap ha h0 he (Int.le_refl _)
  | cons s l ih =>
    obtain ⟨h1, h2, h3, h4, h5⟩ := cal_cons h
    rw [P.fr]
    exact ih h5 (by omega) h3 (gap ha h0 h4 (by omega))

theorem free_good {l : List (Int × Int)} {n : Int} (h : P.calendar l n = 0) : ∀ x ∈ P.free l n, 0 ≤ x.1 ∧ x.1 < x.2 ∧ x.2 ≤ n := by
  obtain ⟨_, hc, hs⟩ := calendar_len h
  simp [P.sails] at hs
  rw [P.free, if_pos h]
  exact fr_good hc (by omega) (by omega) (by simp)

def P.anyHas (i : Int) (l : List (Int × Int)) : Bool := l.any (P.has i)

/-- What has been built behind k legs: 'out', and whether the last of it is open. -/
structure P.Built (l : List (Int × Int)) (k : Nat) (out : List (Int × Int)) (opn : Bool) : Prop where
  apart : P.Apart out
  good : ∀ x ∈ out, 0 ≤ x.1 ∧ x.1 < x.2 ∧ x.2 ≤ k
  legs : ∀ i : Int, 0 ≤ i → i < k → P.cnt i out = if P.anyHas i l = true then 0 else 1
  opened : opn = true → ∃ o x, out = o ++ [(x, (k : Int))]
  shut : opn = false → ∀ x ∈ out, x.2 < k
  len : out.length ≤ k

theorem Built.start (l : List (Int × Int)) : P.Built l 0 [] false :=
  ⟨by simp, by simp, fun i h1 h2 => by omega, (fun h => by cases h), by simp, by simp⟩

theorem Built.taken {l : List (Int × Int)} {k : Nat} {out : List (Int × Int)} {opn : Bool} (h : P.Built l k out opn) (ht : P.anyHas k l = true) : P.Built l (k + 1) out false := by
  refine ⟨h.apart, fun x hx => by have := h.good x hx; omega, fun i h1 h2 => ?_, (fun h => by cases h), fun _ x hx => by have := h.good x hx; omega, by have := h.len; omega⟩
  by_cases hi : i < k
  · exact h.legs i h1 hi
  · obtain rfl : i = k := by omega
    rw [if_pos ht]
    exact cnt_zero_of fun x hx hh => by have := h.good x hx; omega

theorem Built.extend {l : List (Int × Int)} {k : Nat} {o : List (Int × Int)} {x : Int} {opn : Bool} (h : P.Built l k (o ++ [(x, (k : Int))]) opn) (ht : P.anyHas k l = false) : P.Built l (k + 1) (o ++ [(x, (k : Int) + 1)]) true := by
  have hap := List.pairwise_append.1 h.apart
  have hx := h.good (x, k) (by simp)
  refine ⟨?_, fun y hy => ?_, fun i h1 h2 => ?_, fun _ => ⟨o, x, by push_cast; rfl⟩, (fun h => by cases h), by have := h.len; simp at this ⊢; omega⟩
  · rw [P.Apart, List.pairwise_append]
    refine ⟨hap.1, by simp, fun y hy z hz => ?_⟩
    simp at hz
    subst hz
    exact hap.2.2 y hy (x, k) (by simp)
  · rw [List.mem_append] at hy
    rcases hy with hy | hy
    · have := h.good y (by simp [hy]); omega
    · simp at hy; subst hy; simp at hx ⊢; omega
  · rw [cnt_append, cnt_cons, cnt_nil]
    by_cases hi : i < k
    · have := h.legs i h1 hi
      rw [cnt_append, cnt_cons, cnt_nil] at this
      rw [← this]
      have e : P.has i (x, (k : Int)) = P.has i (x, (k : Int) + 1) := by
        have e1 : decide (i < (k : Int)) = decide (i < (k : Int) + 1) := by rw [decide_eq_decide]; omega
        simp [P.has, e1]
      rw [e]
    · obtain rfl : i = k := by omega
      have z : P.cnt k o = 0 := cnt_zero_of fun y hy hh => by have := h.good y (by simp [hy]); omega
      rw [z, ht, if_pos (by simp [P.has]; simp at hx; omega)]
      simp

theorem Built.begin {l : List (Int × Int)} {k : Nat} {out : List (Int × Int)} (h : P.Built l k out false) (ht : P.anyHas k l = false) : P.Built l (k + 1) (out ++ [((k : Int), (k : Int) + 1)]) true := by
  refine ⟨?_, fun y hy => ?_, fun i h1 h2 => ?_, fun _ => ⟨out, k, by push_cast; rfl⟩, (fun h => by cases h), by have := h.len; simp; omega⟩
  · rw [P.Apart, List.pairwise_append]
    refine ⟨h.apart, by simp, fun y hy z hz => ?_⟩
    simp at hz
    subst hz
    exact h.shut rfl y hy
  · rw [List.mem_append] at hy
    rcases hy with hy | hy
    · have := h.good y hy; omega
    · simp at hy; subst hy; simp; omega
  · rw [cnt_append, cnt_cons, cnt_nil]
    by_cases hi : i < k
    · rw [if_neg (by simp [P.has]; omega), h.legs i h1 hi]; simp
    · obtain rfl : i = k := by omega
      have z : P.cnt k out = 0 := cnt_zero_of fun y hy hh => by have := h.good y hy; omega
      rw [z, ht, if_pos (by simp [P.has]; omega)]
      simp

theorem anyHas_cnt (i : Int) (l : List (Int × Int)) : P.anyHas i l = true ↔ 0 < P.cnt i l := by
  unfold P.anyHas P.cnt
  rw [List.any_eq_true, List.countP_pos_iff]

theorem built_free {l : List (Int × Int)} {n : Nat} {out : List (Int × Int)} {opn : Bool} (h : P.calendar l n = 0) (hb : P.Built l n out opn) : out = P.free l n := by
  refine apart_uniq hb.apart apart_free (fun x hx => (hb.good x hx).2.1) (fun x hx => (free_good h x hx).2.1) fun i => ?_
  by_cases hi : 0 ≤ i ∧ i < n
  · have h1 := hb.legs i hi.1 hi.2
    have h2 := cnt_free h hi.1 hi.2
    have h3 := anyHas_cnt i l
    by_cases ha : P.anyHas i l = true
    · rw [if_pos ha] at h1
      have := h3.1 ha
      omega
    · rw [if_neg ha] at h1
      have : ¬ 0 < P.cnt i l := fun c => ha (h3.2 c)
      omega
  · rw [cnt_zero_of fun x hx hh => by have := hb.good x hx; omega, cnt_zero_of fun x hx hh => by have := free_good h x hx; omega]

/-- For calendars the reference's Take is the program's. -/
theorem cal_rising {n e : Int} {l : List (Int × Int)} (h : P.cal n e l = 0) : ∀ x ∈ l, e ≤ x.1 := by
  induction l generalizing e with
  | nil => simp
  | cons s l ih =>
    obtain ⟨h1, h2, h3, h4, h5⟩ := cal_cons h
    intro x hx
    rcases List.mem_cons.1 hx with rfl | hx
    · exact h4
    · have := ih h5 x hx; omega

theorem rest_all {f t : Int} {l : List (Int × Int)} (h : ∀ x ∈ l, x ≠ (f, t)) : P.rest l f t = l := by
  unfold P.rest
  rw [List.filter_eq_self]
  intro x hx
  simp [h x hx]

theorem rest_eq {n e f t : Int} {l : List (Int × Int)} (h : P.cal n e l = 0) : P.rest l f t = l.take (P.sameAt l f t) ++ l.drop (P.sameAt l f t + 1) := by
  induction l generalizing e with
  | nil => rfl
  | cons s l ih =>
    obtain ⟨h1, h2, h3, h4, h5⟩ := cal_cons h
    by_cases hs : s = (f, t)
    · have ha : P.rest l f t = l := rest_all fun x hx e => by
        have := cal_rising h5 x hx
        rw [e, hs] at this
        rw [hs] at h2
        simp at this h2
        omega
      unfold P.rest P.sameAt at *
      rw [List.findIdx_cons, hs]
      simp
      simpa using ha
    · have hs' : ¬ (s.1, s.2) = (f, t) := hs
      have := ih h5
      unfold P.rest P.sameAt at *
      rw [List.findIdx_cons, decide_eq_false hs']
      rw [List.filter_cons_of_pos (by simp [hs])]
      simp
      simpa using this

theorem same_lt {n e f t : Int} {l : List (Int × Int)} (h : P.cal n e l = 0) : P.sameAt l f t < l.length ↔ ¬ (P.rest l f t).length = l.length := by
  have e1 := rest_eq (f := f) (t := t) h
  have hle : P.sameAt l f t ≤ l.length := List.findIdx_le_length
  rw [e1]
  simp
  omega

theorem refTake {l : List (Int × Int)} {n f t : Int} (hb : P.both l n f t = 0) : P.refTakeE l f t = P.takeE l n f t ∧ P.refTakeL l f t = P.takeL l n f t := by
  have hc : P.calendar l n = 0 := by
    unfold P.both at hb
    split at hb
    · assumption
    · contradiction
  obtain ⟨_, hcl, _⟩ := calendar_len hc
  have hlt := same_lt (f := f) (t := t) hcl
  have he := rest_eq (f := f) (t := t) hcl
  have e0 : P.takeE l n f t = P.refTakeE l f t := by
    rw [P.takeE, if_pos hb, P.refTakeE]
    by_cases h : (P.rest l f t).length = l.length
    · rw [if_pos h, if_neg (by rw [hlt]; simp [h])]
    · rw [if_neg h, if_pos (hlt.2 h)]
  refine ⟨e0.symm, ?_⟩
  rw [P.takeL, e0, P.refTakeE, P.refTakeL]
  by_cases h : (P.rest l f t).length = l.length
  · rw [if_pos h, if_pos h, if_neg (by decide)]
  · rw [if_neg h, if_neg h, if_pos rfl, he]

theorem refAdd {l : List (Int × Int)} {n f t : Int} (hb : P.both l n f t = 0) : P.refAddE l f t = P.addE l n f t ∧ P.refAddL l f t = P.addL l n f t := by
  have hm : (l.findIdx (fun s => P.meet s.1 s.2 f t) < l.length) ↔ P.anyMeet l f t = true := by
    unfold P.anyMeet
    rw [List.findIdx_lt_length, List.any_eq_true]
  have e0 : P.addE l n f t = P.refAddE l f t := by
    rw [P.addE, if_pos hb, P.refAddE]
    by_cases h : P.anyMeet l f t = true
    · rw [if_pos h, if_pos (hm.2 h)]
    · rw [if_neg h, if_neg (by rw [hm]; exact h)]
  refine ⟨e0.symm, ?_⟩
  rw [P.addL, e0, P.refAddE, P.refAddL, ins_eq]
  by_cases h : P.anyMeet l f t = true
  · rw [if_pos h, if_pos h, if_neg (by decide)]
  · rw [if_neg h, if_neg h, if_pos rfl]

end Go.Proofs.Ytnadhpemmehedaa
