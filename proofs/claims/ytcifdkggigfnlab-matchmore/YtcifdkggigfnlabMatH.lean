/- Plain facts on matchings: a path gives one more; who can be come to from one that found none shows that there are no more. -/
import Derived.Test.YtcifdkggigfnlabMatG
namespace Go.Proofs.Ytcifdkggigfnlab
set_option linter.unusedSimpArgs false
set_option linter.unusedVariables false

/-- m is a matching of the graph l. -/
def IsM (l m : List Edge) : Prop := (∀ x ∈ m, x ∈ l) ∧ m.Pairwise (fun a b => a.1 ≠ b.1 ∧ a.2 ≠ b.2)
/-- There are matchings of n edges, and none of more. -/
def MaxM (l : List Edge) (n : Nat) : Prop := (∃ m, IsM l m ∧ m.length = n) ∧ ∀ m, IsM l m → m.length ≤ n
theorem MaxM.one {l : List Edge} {n n' : Nat} (h : MaxM l n) (h' : MaxM l n') : n = n' := by
  obtain ⟨m, a, b⟩ := h.1
  obtain ⟨m', a', b'⟩ := h'.1
  have := h.2 m' a'
  have := h'.2 m a
  omega

theorem subLen {α : Type} [BEq α] [LawfulBEq α] : ∀ (A A' : List α), A.Nodup → (∀ a ∈ A, a ∈ A') → A.length ≤ A'.length := by
  intro A
  induction A with
  | nil => intro A' _ _; simp
  | cons a A ih =>
    intro A' hn hs
    obtain ⟨h1, h2⟩ := List.nodup_cons.1 hn
    have ha : a ∈ A' := hs a (by simp)
    have := ih (A'.erase a) h2 (fun b hb => by
      have hne : b ≠ a := fun e => h1 (e ▸ hb)
      exact (List.mem_erase_of_ne hne).2 (hs b (by simp [hb])))
    rw [List.length_erase_of_mem ha] at this
    have : 0 < A'.length := List.length_pos_of_mem ha
    simp only [List.length_cons]
    omega

/-- Right ones that have an owner. -/
def P.owned (R : Nat) (s : Nat → Int) : List Nat := (List.range R).filter (fun r => decide (s r ≠ -1))
theorem mem_owned {R : Nat} {s : Nat → Int} {r : Nat} : r ∈ P.owned R s ↔ r < R ∧ s r ≠ -1 := by simp [P.owned]
theorem owned_nodup (R : Nat) (s : Nat → Int) : (P.owned R s).Nodup := List.Pairwise.filter _ List.nodup_range

/-- s is a matching: owners are of Y, each has one. -/
structure Mtch (E : List Edge) (R : Nat) (s : Nat → Int) (Y : List Int) : Prop where
  edge : ∀ r, r < R → s r ≠ -1 → (s r, (r : Int)) ∈ E ∧ s r ∈ Y
  inj : ∀ r r', r < R → r' < R → s r ≠ -1 → s r = s r' → r = r'
/-- D is dead; each of Y has one, or may have dead ones alone. -/
structure DeadIn (E : List Edge) (R : Nat) (s : Nat → Int) (Y D : List Int) : Prop where
  dead : ∀ r, r < R → (r : Int) ∈ D → s r ≠ -1 ∧ ∀ q : Int, (s r, q) ∈ E → q ∈ D
  done : ∀ y ∈ Y, (∃ r, r < R ∧ s r = y) ∨ ∀ q : Int, (y, q) ∈ E → q ∈ D

theorem shift_val (s : Nat → Int) : ∀ (p : List Nat) (x : Int) (j : Nat), P.shift s x p j = x ∧ j ∈ p ∨ ∃ q, (q = j ∨ q ∈ p) ∧ P.shift s x p j = s q := by
  intro p
  induction p with
  | nil => intro x j; exact .inr ⟨j, .inl rfl, rfl⟩
  | cons r p ih =>
    intro x j
    by_cases e : j = r
    · left
      refine ⟨?_, by simp [e]⟩
      show (if j = r then x else _) = x
      rw [if_pos e]
    · right
      have hv : P.shift s x (r :: p) j = P.shift s (s r) p j := by show (if j = r then x else _) = _; rw [if_neg e]
      rw [hv]
      rcases ih (s r) j with ⟨h, _⟩ | ⟨q, hq, h⟩
      · exact ⟨r, .inr (by simp), h⟩
      · exact ⟨q, hq.imp id (fun h => by simp [h]), h⟩
theorem shift_edge {E : List Edge} {s : Nat → Int} : ∀ (p : List Nat) (x : Int), Alt E s x p → ∀ r ∈ p, (P.shift s x p r, (r : Int)) ∈ E := by
  intro p
  induction p with
  | nil => intro x h; exact h.elim
  | cons r0 p ih =>
    intro x h r hr
    by_cases e : r = r0
    · subst e
      have hv : P.shift s x (r :: p) r = x := by show (if r = r then x else _) = _; rw [if_pos rfl]
      rw [hv]
      exact h.1
    · have hv : P.shift s x (r0 :: p) r = P.shift s (s r0) p r := by show (if r = r0 then x else _) = _; rw [if_neg e]
      rw [hv]
      rcases h.2 with ⟨h1, _⟩ | ⟨_, h2⟩
      · subst h1
        simp at hr
        exact absurd hr e
      · exact ih _ h2 r (by simpa [e] using hr)
theorem shift_head {s : Nat → Int} {x : Int} {r : Nat} {p : List Nat} : P.shift s x (r :: p) r = x := by show (if r = r then x else _) = _; rw [if_pos rfl]
theorem shift_keep {E : List Edge} {s : Nat → Int} : ∀ (p : List Nat) (x : Int), Alt E s x p → p.Nodup → ∀ r ∈ p, s r ≠ -1 → ∃ r1 ∈ p, P.shift s x p r1 = s r := by
  intro p
  induction p with
  | nil => intro x h; exact h.elim
  | cons r0 p ih =>
    intro x h hn r hr hs
    obtain ⟨hn1, hn2⟩ := List.nodup_cons.1 hn
    have off : ∀ r1 ∈ p, P.shift s x (r0 :: p) r1 = P.shift s (s r0) p r1 := fun r1 h1 => by
      show (if r1 = r0 then x else _) = _
      have hne : r1 ≠ r0 := fun e => hn1 (e ▸ h1)
      rw [if_neg hne]
    rcases h.2 with ⟨h1, h2⟩ | ⟨h1, h2⟩
    · subst h1
      simp at hr
      subst hr
      exact absurd h2 hs
    · by_cases e : r = r0
      · subst e
        cases p with
        | nil => exact h2.elim
        | cons r1 p => exact ⟨r1, by simp, by rw [off r1 (by simp), shift_head]⟩
      · obtain ⟨r1, h3, h4⟩ := ih _ h2 hn2 r (by simpa [e] using hr) hs
        exact ⟨r1, by simp [h3], by rw [off r1 h3, h4]⟩
theorem shift_inj {E : List Edge} {R : Nat} {s : Nat → Int} (hs : ∀ r r', r < R → r' < R → s r ≠ -1 → s r = s r' → r = r') : ∀ (p : List Nat) (x : Int) (X : List Nat), Alt E s x p → p.Nodup → (∀ r ∈ p, r < R ∧ r ∉ X) → x ≠ -1 → (∀ r, r < R → r ∉ X → s r ≠ x) →
    ∀ r r', r < R → r' < R → r ∉ X → r' ∉ X → P.shift s x p r ≠ -1 → P.shift s x p r = P.shift s x p r' → r = r' := by
  intro p
  induction p with
  | nil => intro x X h; exact h.elim
  | cons r0 p ih =>
    intro x X h hn hp hx hxX
    obtain ⟨hn1, hn2⟩ := List.nodup_cons.1 hn
    have off : ∀ r1, r1 ≠ r0 → P.shift s x (r0 :: p) r1 = P.shift s (s r0) p r1 := fun r1 h1 => by
      show (if r1 = r0 then x else _) = _
      rw [if_neg h1]
    have h0 := hp r0 (by simp)
    -- off the head nobody has x
    have nox : ∀ r1, r1 < R → r1 ∉ X → r1 ≠ r0 → P.shift s (s r0) p r1 ≠ x := by
      intro r1 a1 a2 a3
      rcases shift_val s p (s r0) r1 with ⟨h1, _⟩ | ⟨q, hq, h1⟩
      · rw [h1]; exact hxX r0 h0.1 h0.2
      · rw [h1]
        rcases hq with rfl | hq
        · exact hxX q a1 a2
        · have := hp q (by simp [hq])
          exact hxX q this.1 this.2
    intro r r' hr hr' hX hX' hne he
    by_cases e : r = r0
    · by_cases e' : r' = r0
      · rw [e, e']
      · exfalso
        rw [e, shift_head, off r' e'] at he
        exact nox r' hr' hX' e' he.symm
    · by_cases e' : r' = r0
      · exfalso
        rw [e', shift_head, off r e] at he
        exact nox r hr hX e he
      · rw [off r e] at hne
        rw [off r e, off r' e'] at he
        rcases h.2 with ⟨h1, h2⟩ | ⟨h1, h2⟩
        · subst h1
          exact hs r r' hr hr' hne he
        · exact ih (s r0) (r0 :: X) h2 hn2 (fun q hq => ⟨(hp q (by simp [hq])).1, by
            simp only [List.mem_cons, not_or]
            exact ⟨fun e => hn1 (e ▸ hq), (hp q (by simp [hq])).2⟩⟩) h1 (fun q a1 a2 a3 => by
            simp only [List.mem_cons, not_or] at a2
            exact a2.1 ((hs r0 q h0.1 a1 h1 a3.symm).symm)) r r' hr hr' (by simp only [List.mem_cons, not_or]; exact ⟨e, hX⟩) (by simp only [List.mem_cons, not_or]; exact ⟨e', hX'⟩) hne he

/-- No path comes to what is dead. -/
theorem alt_dead {E : List Edge} {R : Nat} {s : Nat → Int} {D : List Int} (hd : ∀ r, r < R → (r : Int) ∈ D → s r ≠ -1 ∧ ∀ q : Int, (s r, q) ∈ E → q ∈ D) : ∀ (p : List Nat) (x : Int), Alt E s x p → (∀ r ∈ p, r < R) → ∀ r ∈ p, ¬ (r : Int) ∈ D := by
  intro p
  induction p with
  | nil => intro x h; exact h.elim
  | cons r0 p ih =>
    intro x h hp r hr hD
    rcases h.2 with ⟨h1, h2⟩ | ⟨h1, h2⟩
    · subst h1
      simp at hr
      subst hr
      exact (hd r (hp r (by simp)) hD).1 h2
    · rcases List.mem_cons.1 hr with rfl | hr
      · cases p with
        | nil => exact h2.elim
        | cons r1 p =>
          have := (hd r (hp r (by simp)) hD).2 r1 h2.1
          exact ih _ h2 (fun q hq => hp q (by simp [hq])) r1 (by simp) this
      · exact ih _ h2 (fun q hq => hp q (by simp [hq])) r hr hD

theorem mtch_path {E : List Edge} {R : Nat} {s : Nat → Int} {Y : List Int} {x : Int} {p : List Nat} (hm : Mtch E R s Y) (hx : x ≠ -1) (hY : ¬ x ∈ Y) (hp : Path E R s [] x p) : Mtch E R (P.shift s x p) (x :: Y) := by
  have hfr : ∀ r ∈ p, r < R := fun r h => (hp.fresh r h).1
  refine ⟨fun r hr hs => ?_, fun r r' hr hr' hs he => ?_⟩
  · by_cases e : r ∈ p
    · refine ⟨shift_edge p x hp.alt r e, ?_⟩
      rcases shift_val s p x r with ⟨h1, _⟩ | ⟨q, hq, h1⟩
      · rw [h1]; simp
      · rw [h1]
        have hqR : q < R := by rcases hq with rfl | hq; exact hr; exact hfr q hq
        have := (hm.edge q hqR (by rw [← h1]; exact hs)).2
        simp [this]
    · rw [shift_off s p x r e] at hs ⊢
      have := hm.edge r hr hs
      exact ⟨this.1, by simp [this.2]⟩
  · exact shift_inj hm.inj p x [] hp.alt hp.nodup (fun r h => ⟨hfr r h, by simp⟩) hx (fun r hr _ e => by
      have := (hm.edge r hr (by rw [e]; exact hx)).2
      rw [e] at this
      exact hY this) r r' hr hr' (by simp) (by simp) hs he
/-- Who has one behind a path: x, and who had one. -/
theorem path_owners {E : List Edge} {R : Nat} {s : Nat → Int} {x : Int} {p : List Nat} (hp : Path E R s [] x p) {y : Int} (hy : y ≠ -1) : (∃ r, r < R ∧ P.shift s x p r = y) ↔ y = x ∨ ∃ r, r < R ∧ s r = y := by
  have hfr : ∀ r ∈ p, r < R := fun r h => (hp.fresh r h).1
  constructor
  · rintro ⟨r, hr, h⟩
    rcases shift_val s p x r with ⟨h1, _⟩ | ⟨q, hq, h1⟩
    · left; rw [← h, h1]
    · right
      exact ⟨q, by rcases hq with rfl | hq; exact hr; exact hfr q hq, by rw [← h1, h]⟩
  · rintro (rfl | ⟨r, hr, h⟩)
    · cases p with
      | nil => exact hp.alt.elim
      | cons r p => exact ⟨r, hfr r (by simp), shift_head⟩
    · by_cases e : r ∈ p
      · obtain ⟨r1, h1, h2⟩ := shift_keep p x hp.alt hp.nodup r e (by rw [h]; exact hy)
        exact ⟨r1, hfr r1 h1, by rw [h2, h]⟩
      · exact ⟨r, hr, by rw [shift_off s p x r e, h]⟩
theorem dead_path {E : List Edge} {R : Nat} {s : Nat → Int} {Y D : List Int} {x : Int} {p : List Nat} (hd : DeadIn E R s Y D) (hY : ∀ y ∈ Y, y ≠ -1) (hx : x ≠ -1) (hp : Path E R s [] x p) : DeadIn E R (P.shift s x p) (x :: Y) D := by
  have hfr : ∀ r ∈ p, r < R := fun r h => (hp.fresh r h).1
  have hnd := alt_dead hd.dead p x hp.alt hfr
  refine ⟨fun r hr hD => ?_, fun y hy => ?_⟩
  · have : r ∉ p := fun h => hnd r h hD
    rw [shift_off s p x r this]
    exact hd.dead r hr hD
  · rcases List.mem_cons.1 hy with rfl | hy
    · exact .inl ((path_owners hp hx).2 (.inl rfl))
    · rcases hd.done y hy with h | h
      · exact .inl ((path_owners hp (hY y hy)).2 (.inr h))
      · exact .inr h
theorem dead_more {E : List Edge} {R : Nat} {s : Nat → Int} {Y D A : List Int} {x : Int} (hd : DeadIn E R s Y D) (hA : Dead E R s [] A) (hx : ∀ q : Int, (x, q) ∈ E → q ∈ A) : DeadIn E R s (x :: Y) (D ++ A) := by
  refine ⟨fun r hr hD => ?_, fun y hy => ?_⟩
  · rcases List.mem_append.1 hD with h | h
    · obtain ⟨h1, h2⟩ := hd.dead r hr h
      exact ⟨h1, fun q hq => List.mem_append.2 (.inl (h2 q hq))⟩
    · obtain ⟨h1, h2⟩ := hA.own r h (by simp)
      exact ⟨h1, fun q hq => List.mem_append.2 (.inr (h2 q hq))⟩
  · rcases List.mem_cons.1 hy with rfl | hy
    · exact .inr (fun q hq => List.mem_append.2 (.inr (hx q hq)))
    · rcases hd.done y hy with h | h
      · exact .inl h
      · exact .inr (fun q hq => List.mem_append.2 (.inl (h q hq)))

theorem mtch_more {E : List Edge} {R : Nat} {s : Nat → Int} {Y : List Int} {x : Int} (h : Mtch E R s Y) : Mtch E R s (x :: Y) := ⟨fun r hr hs => by have := h.edge r hr hs; exact ⟨this.1, by simp [this.2]⟩, h.inj⟩

/-- No matching has more edges than there are right ones with an owner. -/
theorem dead_max {E : List Edge} {n R : Nat} {s : Nat → Int} {Y D : List Int} (hr : ∀ x ∈ E, 0 ≤ x.1 ∧ x.1 < (n : Int) ∧ 0 ≤ x.2 ∧ x.2 < (R : Int)) (hY : ∀ y : Int, 0 ≤ y → y < (n : Int) → y ∈ Y) (hd : DeadIn E R s Y D) : ∀ m, IsM E m → m.length ≤ (P.owned R s).length := by
  intro m ⟨hm1, hm2⟩
  have key : ∀ z ∈ m, ∃ r, r ∈ P.owned R s ∧ (((r : Int) ∈ D ∧ (r : Int) = z.2) ∨ (¬ (r : Int) ∈ D ∧ s r = z.1)) := by
    intro z hz
    have hE := hm1 z hz
    have hrg := hr z hE
    by_cases h : z.2 ∈ D
    · obtain ⟨r, hr2⟩ : ∃ r : Nat, z.2 = r := ⟨z.2.toNat, by omega⟩
      rw [hr2] at h
      exact ⟨r, mem_owned.2 ⟨by omega, (hd.dead r (by omega) h).1⟩, .inl ⟨h, hr2.symm⟩⟩
    · rcases hd.done z.1 (hY z.1 hrg.1 hrg.2.1) with ⟨r, h1, h2⟩ | h1
      · by_cases hD : (r : Int) ∈ D
        · exact absurd ((hd.dead r h1 hD).2 z.2 (by rw [h2]; exact hE)) h
        · exact ⟨r, mem_owned.2 ⟨h1, by rw [h2]; omega⟩, .inr ⟨hD, h2⟩⟩
      · exact absurd (h1 z.2 hE) h
  -- choose for each edge its right one
  have main : ∀ (m : List Edge), m.Pairwise (fun a b => a.1 ≠ b.1 ∧ a.2 ≠ b.2) → (∀ z ∈ m, ∃ r, r ∈ P.owned R s ∧ (((r : Int) ∈ D ∧ (r : Int) = z.2) ∨ (¬ (r : Int) ∈ D ∧ s r = z.1))) →
      ∃ rs : List Nat, rs.length = m.length ∧ rs.Nodup ∧ ∀ r ∈ rs, r ∈ P.owned R s ∧ ∃ z ∈ m, (((r : Int) ∈ D ∧ (r : Int) = z.2) ∨ (¬ (r : Int) ∈ D ∧ s r = z.1)) := by
    intro m
    induction m with
    | nil => intro _ _; exact ⟨[], rfl, List.nodup_nil, by simp⟩
    | cons z m ih =>
      intro hp hk
      obtain ⟨hp1, hp2⟩ := List.pairwise_cons.1 hp
      obtain ⟨rs, h1, h2, h3⟩ := ih hp2 (fun z hz => hk z (by simp [hz]))
      obtain ⟨r, h4, h5⟩ := hk z (by simp)
      refine ⟨r :: rs, by simp [h1], List.nodup_cons.2 ⟨fun hm => ?_, h2⟩, fun r' hr' => ?_⟩
      · obtain ⟨_, z', hz', h6⟩ := h3 r hm
        have := hp1 z' hz'
        rcases h5 with ⟨a, b⟩ | ⟨a, b⟩ <;> rcases h6 with ⟨c, d⟩ | ⟨c, d⟩
        · exact this.2 (b.symm.trans d)
        · exact c a
        · exact a c
        · exact this.1 (b.symm.trans d)
      · rcases List.mem_cons.1 hr' with rfl | hr'
        · exact ⟨h4, z, by simp, h5⟩
        · obtain ⟨a, z', b, c⟩ := h3 r' hr'
          exact ⟨a, z', by simp [b], c⟩
  obtain ⟨rs, h1, h2, h3⟩ := main m hm2 key
  have := subLen rs (P.owned R s) h2 (fun r hr => (h3 r hr).1)
  omega

end Go.Proofs.Ytcifdkggigfnlab
