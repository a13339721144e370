/- Plain facts: the reference's table against the program's; its circles; its order. -/
import Derived.Test.YtnadhpemmehedaaShipO
namespace Go.Proofs.Ytnadhpemmehedaa
open Go.RowKit
set_option linter.unusedSimpArgs false
set_option linter.unusedVariables false
set_option linter.unnecessarySimpa false

theorem war_split (l : List Cat) : ∀ (m a b : Nat), P.war (P.base l) m a b = ((decide (a = b) && decide (b < l.length)) || P.war (P.rbase l) m a b) := by
  intro m
  induction m with
  | zero =>
    intro a b
    simp only [P.war, P.base, P.rbase, P.rdone]
    cases decide (b < l.length) <;> cases decide (a = b) <;> simp
  | succ m ih =>
    intro a b
    simp only [P.war, P.step, ih]
    by_cases e1 : a = m
    · subst e1
      by_cases e2 : a = b
      · subst e2
        cases decide (a < l.length) <;> cases P.war (P.rbase l) a a a <;> simp
      · simp only [e2]
        cases decide (a < l.length) <;> cases P.war (P.rbase l) a a a <;> cases P.war (P.rbase l) a a b <;> simp
    · by_cases e2 : m = b
      · subst e2
        simp only [e1]
        cases decide (m < l.length) <;> cases P.war (P.rbase l) m m m <;> cases P.war (P.rbase l) m a m <;> simp
      · simp only [e1, e2]
        simp [Bool.or_assoc]

theorem rlast {l : List Cat} : ∀ (m : Nat) {a b : Nat}, P.war (P.rbase l) m a b = true → ∃ h, b < l.length ∧ P.edge l h b = true ∧ (a = h ∨ P.war (P.rbase l) m a h = true) := by
  intro m
  induction m with
  | zero =>
    intro a b h
    simp only [P.war, P.rbase, P.rdone, Bool.and_eq_true] at h
    exact ⟨a, by simpa using h.1, h.2, .inl rfl⟩
  | succ m ih =>
    intro a b h
    rw [P.war, step_or] at h
    rcases h with h | ⟨h1, h2⟩
    · obtain ⟨x, hx, he, h3⟩ := ih h
      exact ⟨x, hx, he, h3.imp id fun h4 => by rw [P.war, step_or]; exact .inl h4⟩
    · obtain ⟨x, hx, he, h3⟩ := ih h2
      refine ⟨x, hx, he, .inr ?_⟩
      rw [P.war, step_or]
      rcases h3 with rfl | h3
      · exact .inl h1
      · exact .inr ⟨h1, h3⟩

theorem redge {l : List Cat} {b : Nat} {h : Int} (hb : b < l.length) (hm : h ∈ (l.getD b (ByteArray.empty, [])).2) (h0 : 0 ≤ h) : P.rbase l h.toNat b = true := by
  simp only [P.rbase, P.rdone, Bool.and_eq_true]
  refine ⟨by simpa using hb, ?_⟩
  unfold P.edge
  rw [List.any_eq_true]
  exact ⟨h, hm, by simp; omega⟩

theorem getD_mem {l : List Cat} {b : Nat} (hb : b < l.length) : l.getD b (ByteArray.empty, []) ∈ l := by
  rw [List.getD_eq_getElem?_getD, List.getElem?_eq_getElem hb]
  exact List.getElem_mem hb

theorem circle_ref {l : List Cat} (hh : ∀ c ∈ l, ∀ h ∈ c.2, 0 ≤ h ∧ h < l.length) : P.circle l = P.some (fun i => P.war (P.rbase l) l.length i i) l.length := by
  rw [Bool.eq_iff_iff, circle_iff, some_iff]
  constructor
  · rintro ⟨i, hi, h, hm, hw⟩
    have hr := hh _ (getD_mem hi) h hm
    refine ⟨i, hi, ?_⟩
    have e1 : P.war (P.rbase l) l.length h.toNat i = true := war_le (m := 0) (Nat.zero_le _) (redge hi hm hr.1)
    rw [war_split, Bool.or_eq_true] at hw
    rcases hw with hw | hw
    · simp at hw
      rw [← hw.1] at e1
      exact e1
    · exact war_trans l.length (by omega) hw e1
  · rintro ⟨i, hi, hw⟩
    obtain ⟨x, _, he, h3⟩ := rlast _ hw
    have hm := edge_mem hi he
    refine ⟨i, hi, x, hm, ?_⟩
    have hr := hh _ (getD_mem hi) _ hm
    rw [Int.toNat_natCast, war_split, Bool.or_eq_true]
    rcases h3 with rfl | h3
    · left; simp; omega
    · exact .inr h3

/-- The reference's test of one that may stand next: a of the others looked at. -/
def P.rok (R : Tab) (l : List Int) (i : Nat) : Nat → Bool
  | 0 => !P.hasInt l i
  | a + 1 => P.rok R l i a && (!R a i || P.hasInt l a)

theorem rok_iff (R : Tab) (l : List Int) (i a : Nat) : P.rok R l i a = true ↔ P.hasInt l i = false ∧ ∀ o, o < a → R o i = true → P.hasInt l o = true := by
  induction a with
  | zero => simp [P.rok]
  | succ a ih =>
    rw [P.rok, Bool.and_eq_true, ih]
    constructor
    · rintro ⟨⟨h1, h2⟩, h3⟩
      refine ⟨h1, fun o ho hr => ?_⟩
      rcases Nat.lt_succ_iff_lt_or_eq.1 ho with h | rfl
      · exact h2 o h hr
      · rw [hr] at h3; simpa using h3
    · rintro ⟨h1, h2⟩
      refine ⟨⟨h1, fun o ho hr => h2 o (by omega) hr⟩, ?_⟩
      cases hr : R a i with
      | false => rfl
      | true => simp [h2 a (by omega) hr]

theorem rok_may {T R : Tab} {n : Nat} {l : List Int} {c : Nat} (hc : c < n) (hs : ∀ a b, a < n → b < n → T a b = ((decide (a = b) && decide (b < n)) || R a b)) (hd : ∀ i, i < n → R i i = false) : P.rok R l c n = P.may T n l c := by
  rw [Bool.eq_iff_iff, rok_iff]
  unfold P.may
  rw [Bool.and_eq_true]
  constructor
  · rintro ⟨h1, h2⟩
    refine ⟨by simp [h1], ?_⟩
    cases e : P.some (P.bars T l c) n with
    | false => rfl
    | true =>
      obtain ⟨o, ho, hb⟩ := (some_iff _ _).1 e
      unfold P.bars at hb
      simp only [Bool.and_eq_true] at hb
      have hne : o ≠ c := by simpa using hb.1
      have hT := hb.2.2
      rw [hs o c ho hc] at hT
      simp [hne] at hT
      have := h2 o ho hT
      simp [this] at hb
  · rintro ⟨h1, h2⟩
    refine ⟨by simpa using h1, fun o ho hr => ?_⟩
    cases e : P.hasInt l o with
    | true => rfl
    | false =>
      exfalso
      have hne : o ≠ c := by rintro rfl; rw [hd o ho] at hr; cases hr
      have : P.some (P.bars T l c) n = true := (some_iff _ _).2 ⟨o, ho, by
        unfold P.bars
        rw [hs o c ho hc, hr]
        simp [hne, e]⟩
      rw [this] at h2
      cases h2

/-- What the reference's search holds when those from k on are looked at. -/
def P.Nx (p : Nat → Bool) (k n : Nat) (X : Int) : Prop := (X = -1 ∧ ∀ j, k ≤ j → j < n → p j = false) ∨ ∃ j : Nat, X = j ∧ k ≤ j ∧ j < n ∧ p j = true ∧ ∀ i, k ≤ i → i < j → p i = false

theorem Nx.no {p : Nat → Bool} {k n : Nat} {X : Int} (h : P.Nx p (k + 1) n X) (hp : p k = false) : P.Nx p k n X := by
  rcases h with ⟨h1, h2⟩ | ⟨j, h1, h2, h3, h4, h5⟩
  · exact .inl ⟨h1, fun j hj hn => by rcases Nat.eq_or_lt_of_le hj with rfl | hj; exact hp; exact h2 j hj hn⟩
  · exact .inr ⟨j, h1, by omega, h3, h4, fun i hi hn => by rcases Nat.eq_or_lt_of_le hi with rfl | hi; exact hp; exact h5 i hi hn⟩
theorem Nx.yes {p : Nat → Bool} {k n : Nat} (hk : k < n) (hp : p k = true) : P.Nx p k n (k : Int) := .inr ⟨k, rfl, Nat.le_refl _, hk, hp, fun i hi hn => by omega⟩
theorem Nx.done {p q : Nat → Bool} {n : Nat} {X : Int} (h : P.Nx p 0 n X) (hpq : ∀ i, i < n → p i = q i) (hl : P.least q n < n) : X = P.least q n := by
  rcases h with ⟨_, h2⟩ | ⟨j, h1, _, h3, h4, h5⟩
  · have := least_yes hl
    rw [← hpq _ hl, h2 _ (Nat.zero_le _) hl] at this
    cases this
  · rw [h1, least_hit h3 (by rw [← hpq _ h3]; exact h4) (fun i hi => by rw [← hpq i (by omega)]; exact h5 i (Nat.zero_le _) hi)]

end Go.Proofs.Ytnadhpemmehedaa
