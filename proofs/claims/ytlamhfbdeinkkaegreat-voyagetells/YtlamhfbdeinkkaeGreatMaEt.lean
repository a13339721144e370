import Derived.Test.YtlamhfbdeinkkaeGreatMaDt
set_option maxRecDepth 10000
/- Plain facts on matchings: a path gives one more; who can be come to from one that found none shows that there are no more. -/
namespace Go.Proofs.YtlamhfbdeinkkaeGreat.Ma
set_option linter.unusedSimpArgs false
set_option linter.unusedVariables false

/-- m is a matching of the graph l. -/
def IsM (l m : List Edge) : Prop := (∀ x ∈ m, x ∈ l) ∧ m.Pairwise (fun a b => a.1 ≠ b.1 ∧ a.2 ≠ b.2)
/-- There are matchings of n edges, and none of more. -/
def MaxM (l : List Edge) (n : Nat) : Prop := (∃ m, IsM l m ∧ m.length = n) ∧ ∀ m, IsM l m → m.length ≤ n
theorem MaxM.one {l : List Edge} {n n' : Nat} (h : MaxM l n) (h' : MaxM l n') : n = n' := by
  obtain ⟨m, a, b⟩ := h.1
  obtain ⟨m', a', b'⟩ := h'.1
  have := h.2 m' a'
  have := h'.2 m a
  omega

theorem subLen {α : Type} [BEq α] [LawfulBEq α] : ∀ (A A' : List α), A.Nodup → (∀ a ∈ A, a ∈ A') → A.length ≤ A'.length := by
  intro A
  induction A with
  | nil => intro A' _ _; simp
  | cons a A ih =>
    intro A' hn hs
    obtain ⟨h1, h2⟩ := List.nodup_cons.1 hn
    have ha : a ∈ A' := hs a (by simp)
    have := ih (A'.erase a) h2 (fun b hb => by
      have hne : b ≠ a := fun e => h1 (e ▸ hb)
      exact (List.mem_erase_of_ne hne).2 (hs b (by simp [hb])))
    rw [List.length_erase_of_mem ha] at this
    have : 0 < A'.length := List.length_pos_of_mem ha
    simp only [List.length_cons]
    omega

/-- Right ones that have an owner. -/
def P.owned (R : Nat) (s : Nat → Int) : List Nat := (List.range R).filter (fun r => decide (s r ≠ -1))
theorem mem_owned {R : Nat} {s : Nat → Int} {r : Nat} : r ∈ P.owned R s ↔ r < R ∧ s r ≠ -1 := by simp [P.owned]
theorem owned_nodup (R : Nat) (s : Nat → Int) : (P.owned R s).Nodup := List.Pairwise.filter _ List.nodup_range

/-- s is a matching: owners are of Y, each has one. -/
structure Mtch (E : List Edge) (R : Nat) (s : Nat → Int) (Y : List Int) : Prop where
  edge : ∀ r, r < R → s r ≠ -1 → (s r, (r : Int)) ∈ E ∧ s r ∈ Y
  inj : ∀ r r', r < R → r' < R → s r ≠ -1 → s r = s r' → r = r'
/-- D is dead; each of Y has one, or may have dead ones alone. -/
structure DeadIn (E : List Edge) (R : Nat) (s : Nat → Int) (Y D : List Int) : Prop where
  dead : ∀ r, r < R → (r : Int) ∈ D → s r ≠ -1 ∧ ∀ q : Int, (s r, q) ∈ E → q ∈ D
  done : ∀ y ∈ Y, (∃ r, r < R ∧ s r = y) ∨ ∀ q : Int, (y, q) ∈ E → q ∈ D

theorem shift_val (s : Nat → Int) : ∀ (p : List Nat) (x : Int) (j : Nat), P.shift s x p j = x ∧ j ∈ p ∨ ∃ q, (q = j ∨ q ∈ p) ∧ P.shift s x p j = s q := by
  intro p
  induction p with
  | nil => intro x j; exact .inr ⟨j, .inl rfl, rfl⟩
  | cons r p ih =>
    intro x j
    by_cases e : j = r
    · left
      refine ⟨?_, by simp [e]⟩
      show (if j = r then x else _) = x
      rw [if_pos e]
    · right
      have hv : P.shift s x (r :: p) j = P.shift s (s r) p j := by show (if j = r then x else _) = _; rw [if_neg e]
      rw [hv]
      rcases ih (s r) j with ⟨h, _⟩ | ⟨q, hq, h⟩
      · exact ⟨r, .inr (by simp), h⟩
      · exact ⟨q, hq.imp id (fun h => by simp [h]), h⟩
theorem shift_edge {E : List Edge} {s : Nat → Int} : ∀ (p : List Nat) (x : Int), Alt E s x p → ∀ r ∈ p, (P.shift s x p r, (r : Int)) ∈ E := by
  intro p
  induction p with
  | nil => intro x h; exact h.elim
  | cons r0 p ih =>
    intro x h r hr
    by_cases e : r = r0
    · subst e
      have hv : P.shift s x (r :: p) r = x := by show (if r = r then x else _) = _; rw [if_pos rfl]
      rw [hv]
      exact h.1
    · have hv : P.shift s x (r0 :: p) r = P.shift s (s r0) p r := by show (if r = r0 then x else _) = _; rw [if_neg e]
      rw [hv]
      rcases h.2 with ⟨h1, _⟩ | ⟨_, h2⟩
      · subst h1
        simp at hr
        exact absurd hr e
      · exact ih _ h2 r (by simpa [e] using hr)
theorem shift_head {s : Nat → Int} {x : Int} {r : Nat} {p : List Nat} : P.shift s x (r :: p) r = x := by show (if r = r then x else _) = _; rw [if_pos rfl]
theorem shift_keep {E : List Edge} {s : Nat → Int} : ∀ (p : List Nat) (x : Int), Alt E s x p → p.Nodup → ∀ r ∈ p, s r ≠ -1 → ∃ r1 ∈ p, P.shift s x p r1 = s r := by
  intro p
  induction p with
  | nil => intro x h; exact h.elim
  | cons r0 p ih =>
    intro x h hn r hr hs
    obtain ⟨hn1, hn2⟩ := List.nodup_cons.1 hn
    have off : ∀ r1 ∈ p, P.shift s x (r0 :: p) r1 = P.shift s (s r0) p r1 := fun r1 h1 => by
      show (if r1 = r0 then x else _) = _
      have hne : r1 ≠ r0 := fun e => hn1 (e ▸ h1)
      rw [if_neg hne]
    rcases h.2 with ⟨h1, h2⟩ | ⟨h1, h2⟩
    · subst h1
      simp at hr
      subst hr
      exact absurd h2 hs
    · by_cases e : r = r0
      · subst e
        cases p with
        | nil => exact h2.elim
        | cons r1 p => exact ⟨r1, by simp, by rw [off r1 (by simp), shift_head]⟩
      · obtain ⟨r1, h3, h4⟩ := ih _ h2 hn2 r (by simpa [e] using hr) hs
        exact ⟨r1, by simp [h3], by rw [off r1 h3, h4]⟩
theorem shift_inj {E : List Edge} {R : Nat} {s : Nat → Int} (hs : ∀ r r', r < R → r' < R → s r ≠ -1 → s r = s r' → r = r') : ∀ (p : List Nat) (x : Int) (X : List Nat), Alt E s x p → p.Nodup → (∀ r ∈ p, r < R ∧ r ∉ X) → x ≠ -1 → (∀ r, r < R → r ∉ X → s r ≠ x) →
    ∀ r r', r < R → r' < R → r ∉ X → r' ∉ X → P.shift s x p r ≠ -1 → P.shift s x p r = P.shift s x p r' → r = r' := by
  intro p
  induction p with
  | nil => intro x X h; exact h.elim
  | cons r0 p ih =>
    intro x X h hn hp hx hxX
    obtain ⟨hn1, hn2⟩ := List.nodup_cons.1 hn
    have off : ∀ r1, r1 ≠ r0 → P.shift s x (r0 :: p) r1 = P.shift s (s r0) p r1 := fun r1 h1 => by
      show (if r1 = r0 then x else _) = _
      rw [if_neg h1]
    have h0 := hp r0 (by simp)
    -- off the head nobody has x
    have nox : ∀ r1, r1 < R → r1 ∉ X → r1 ≠ r0 → P.shift s (s r0) p r1 ≠ x := by
      intro r1 a1 a2 a3
      rcases shift_val s p (s r0) r1 with ⟨h1, _⟩ | ⟨q, hq, h1⟩
      · rw [h1]; exact hxX r0 h0.1 h0.2
      · rw [h1]
        rcases hq with rfl | hq
        · exact hxX q a1 a2
        · have := hp q (by simp [hq])
          exact hxX q this.1 this.2
    intro r r' hr hr' hX hX' hne he
    by_cases e : r = r0
    · by_cases e' : r' = r0
      · rw [e, e']
      · exfalso
        rw [e, shift_head, off r' e'] at he
        exact nox r' hr' hX' e' he.symm
    · by_cases e' : r' = r0
      · exfalso
        rw [e', shift_head, off r e] at he
        exact nox r hr hX e he
      · rw [off r e] at hne
        rw [off r e, off r' e'] at he
        rcases h.2 with ⟨h1, h2⟩ | ⟨h1, h2⟩
        · subst h1
          exact hs r r' hr hr' hne he
        · exact ih (s r0) (r0 :: X) h2 hn2 (fun q hq => ⟨(hp q (by simp [hq])).1, by
            simp only [List.mem_cons, not_or]
            exact ⟨fun e => hn1 (e ▸ hq), (hp q (by simp [hq])).2⟩⟩) h1 (fun q a1 a2 a3 => by
            simp only [List.mem_cons, not_or] at a2
            exact a2.1 ((hs r0 q h0.1 a1 h1 a3.symm).symm)) r r' hr hr' (by simp only [List.mem_cons, not_or]; exact ⟨e, hX⟩) (by simp only [List.mem_cons, not_or]; exact ⟨e', hX'⟩) hne he

/-- No path comes to what is dead. -/
theorem alt_dead {E : List Edge} {R : Nat} {s : Nat → Int} {D : List Int} (hd : ∀ r, r < R → (r : Int) ∈ D → s r ≠ -1 ∧ ∀ q : Int, (s r, q) ∈ E → q ∈ D) : ∀ (p : List Nat) (x : Int), Alt E s x p → (∀ r ∈ p, r < R) → ∀ r ∈ p, ¬ (r : Int) ∈ D := by
  intro p
  induction p with
  | nil => intro x h; exact h.elim
  | cons r0 p ih =>
    intro x h hp r hr hD
    rcases h.2 with ⟨h1, h2⟩ | ⟨h1, h2⟩
    · subst h1
      simp at hr
      subst hr
      exact (hd r (hp r (by simp)) hD).1 h2
    · rcases List.mem_cons.1 hr with rfl | hr
      · cases p with
        | nil => exact h2.elim
        | cons r1 p =>
          have := (hd r (hp r (by simp)) hD).2 r1 h2.1
          exact ih _ h2 (fun q hq => hp q (by simp [hq])) r1 (by simp) this
      · exact ih _ h2 (fun q hq => hp q (by simp [hq])) r hr hD

theorem mtch_path {E : List Edge} {R : Nat} {s : Nat → Int} {Y : List Int} {x : Int} {p : List Nat} (hm : Mtch E R s Y) (hx : x ≠ -1) (hY : ¬ x ∈ Y) (hp : Path E R s [] x p) : Mtch E R (P.shift s x p) (x :: Y) := by
  have hfr : ∀ r ∈ p, r < R := fun r h => (hp.fresh r h).1
  refine ⟨fun r hr hs => ?_, fun r r' hr hr' hs he => ?_⟩
  · by_cases e : r ∈ p
    · refine ⟨shift_edge p x hp.alt r e, ?_⟩
      rcases shift_val s p x r with ⟨h1, _⟩ | ⟨q, hq, h1⟩
      · rw [h1]; simp
      · rw [h1]
        have hqR : q < R := by rcases hq with rfl | hq; exact hr; exact hfr q hq
        have := (hm.edge q hqR (by rw [← h1]; exact hs)).2
        simp [this]
    · rw [shift_off s p x r e] at hs ⊢
      have := hm.edge r hr hs
      exact ⟨this.1, by simp [this.2]⟩
  · exact shift_inj hm.inj p x [] hp.alt hp.nodup (fun r h => ⟨hfr r h, by simp⟩) hx (fun r hr _ e => by
      have := (hm.edge r hr (by rw [e]; exact hx)).2
      rw [e] at this
      exact hY this) r r' hr hr' (by simp) (by simp) hs he
/-- Who has one behind a path: x, and who had one. -/
theorem path_owners {E : List Edge} {R : Nat} {s : Nat → Int} {x : Int} {p : List Nat} (hp : Path E R s [] x p) {y : Int} (hy : y ≠ -1) : (∃ r, r < R ∧ P.shift s x p r = y) ↔ y = x ∨ ∃ r, r < R ∧ s r = y := by
  have hfr : ∀ r ∈ p, r < R := fun r h => (hp.fresh r h).1
  constructor
  · rintro ⟨r, hr, h⟩
    rcases shift_val s p x r with ⟨h1, _⟩ | ⟨q, hq, h1⟩
    · left; rw [← h, h1]
    · right
      exact ⟨q, by rcases hq with rfl | hq; exact hr; exact hfr q hq, by rw [← h1, h]⟩
  · rintro (rfl | ⟨r, hr, h⟩)
    · cases p with
      | nil => exact hp.alt.elim
      | cons r p => exact ⟨r, hfr r (by simp), shift_head⟩
    · by_cases e : r ∈ p
      · obtain ⟨r1, h1, h2⟩ := shift_keep p x hp.alt hp.nodup r e (by rw [h]; exact hy)
        exact ⟨r1, hfr r1 h1, by rw [h2, h]⟩
      · exact ⟨r, hr, by rw [shift_off s p x r e, h]⟩
theorem dead_path {E : List Edge} {R : Nat} {s : Nat → Int} {Y D : List Int} {x : Int} {p : List Nat} (hd : DeadIn E R s Y D) (hY : ∀ y ∈ Y, y ≠ -1) (hx : x ≠ -1) (hp : Path E R s [] x p) : DeadIn E R (P.shift s x p) (x :: Y) D := by
  have hfr : ∀ r ∈ p, r < R := fun r h => (hp.fresh r h).1
  have hnd := alt_dead hd.dead p x hp.alt hfr
  refine ⟨fun r hr hD => ?_, fun y hy => ?_⟩
  · have : r ∉ p := fun h => hnd r h hD
    rw [shift_off s p x r this]
    exact hd.dead r hr hD
  · rcases List.mem_cons.1 hy with rfl | hy
    · exact .inl ((path_owners hp hx).2 (.inl rfl))
    · rcases hd.done y hy with h | h
      · exact .inl ((path_owners hp (hY y hy)).2 (.inr h))
      · exact .inr h
theorem dead_more {E : List Edge} {R : Nat} {s : Nat → Int} {Y D A : List Int} {x : Int} (hd : DeadIn E R s Y D) (hA : Dead E R s [] A) (hx : ∀ q : Int, (x, q) ∈ E → q ∈ A) : DeadIn E R s (x :: Y) (D ++ A) := by
  refine ⟨fun r hr hD => ?_, fun y hy => ?_⟩
  · rcases List.mem_append.1 hD with h | h
    · obtain ⟨h1, h2⟩ := hd.dead r hr h
      exact ⟨h1, fun q hq => List.mem_append.2 (.inl (h2 q hq))⟩
    · obtain ⟨h1, h2⟩ := hA.own r h (by simp)
      exact ⟨h1, fun q hq => List.mem_append.2 (.inr (h2 q hq))⟩
  · rcases List.mem_cons.1 hy with rfl | hy
    · exact .inr (fun q hq => List.mem_append.2 (.inr (hx q hq)))
    · rcases hd.done y hy with h | h
      · exact .inl h
      · exact .inr (fun q hq => List.mem_append.2 (.inl (h q hq)))

theorem mtch_more {E : List Edge} {R : Nat} {s : Nat → Int} {Y : List Int} {x : Int} (h : Mtch E R s Y) : Mtch E R s (x :: Y) := ⟨fun r hr hs => by have := h.edge r hr hs; exact ⟨this.1, by simp [this.2]⟩, h.inj⟩

/-- No matching has more edges than there are right ones with an owner. -/
theorem dead_max {E : List Edge} {n R : Nat} {s : Nat → Int} {Y D : List Int} (hr : ∀ x ∈ E, 0 ≤ x.1 ∧ x.1 < (n : Int) ∧ 0 ≤ x.2 ∧ x.2 < (R : Int)) (hY : ∀ y : Int, 0 ≤ y → y < (n : Int) → y ∈ Y) (hd : DeadIn E R s Y D) : ∀ m, IsM E m → m.length ≤ (P.owned R s).length := by
  intro m ⟨hm1, hm2⟩
  have key : ∀ z ∈ m, ∃ r, r ∈ P.owned R s ∧ (((r : Int) ∈ D ∧ (r : Int) = z.2) ∨ (¬ (r : Int) ∈ D ∧ s r = z.1)) := by
    intro z hz
    have hE := hm1 z hz
    have hrg := hr z hE
    by_cases h : z.2 ∈ D
    · obtain ⟨r, hr2⟩ : ∃ r : Nat, z.2 = r := ⟨z.2.toNat, by omega⟩
      rw [hr2] at h
      exact ⟨r, mem_owned.2 ⟨by omega, (hd.dead r (by omega) h).1⟩, .inl ⟨h, hr2.symm⟩⟩
    · rcases hd.done z.1 (hY z.1 hrg.1 hrg.2.1) with ⟨r, h1, h2⟩ | h1
      · by_cases hD : (r : Int) ∈ D
        · exact absurd ((hd.dead r h1 hD).2 z.2 (by rw [h2]; exact hE)) h
        · exact ⟨r, mem_owned.2 ⟨h1, by rw [h2]; omega⟩, .inr ⟨hD, h2⟩⟩
      · exact absurd (h1 z.2 hE) h
  -- choose for each edge its right one
  have main : ∀ (m : List Edge), m.Pairwise (fun a b => a.1 ≠ b.1 ∧ a.2 ≠ b.2) → (∀ z ∈ m, ∃ r, r ∈ P.owned R s ∧ (((r : Int) ∈ D ∧ (r : Int) = z.2) ∨ (¬ (r : Int) ∈ D ∧ s r = z.1))) →
      ∃ rs : List Nat, rs.length = m.length ∧ rs.Nodup ∧ ∀ r ∈ rs, r ∈ P.owned R s ∧ ∃ z ∈ m, (((r : Int) ∈ D ∧ (r : Int) = z.2) ∨ (¬ (r : Int) ∈ D ∧ s r = z.1)) := by
    intro m
    induction m with
    | nil => intro _ _; exact ⟨[], rfl, List.nodup_nil, by simp⟩
    | cons z m ih =>
      intro hp hk
      obtain ⟨hp1, hp2⟩ := List.pairwise_cons.1 hp
      obtain ⟨rs, h1, h2, h3⟩ := ih hp2 (fun z hz => hk z (by simp [hz]))
      obtain ⟨r, h4, h5⟩ := hk z (by simp)
      refine ⟨r :: rs, by simp [h1], List.nodup_cons.2 ⟨fun hm => ?_, h2⟩, fun r' hr' => ?_⟩
      · obtain ⟨_, z', hz', h6⟩ := h3 r hm
        have := hp1 z' hz'
        rcases h5 with ⟨a, b⟩ | ⟨a, b⟩ <;> rcases h6 with ⟨c, d⟩ | ⟨c, d⟩
        · exact this.2 (b.symm.trans d)
        · exact c a
        · exact a c
        · exact this.1 (b.symm.trans d)
      · rcases List.mem_cons.1 hr' with rfl | hr'
        · exact ⟨h4, z, by simp, h5⟩
        · obtain ⟨a, z', b, c⟩ := h3 r' hr'
          exact ⟨a, z', by simp [b], c⟩
  obtain ⟨rs, h1, h2, h3⟩ := main m hm2 key
  have := subLen rs (P.owned R s) h2 (fun r hr => (h3 r hr).1)
  omega

end Go.Proofs.YtlamhfbdeinkkaeGreat.Ma
/- Lists of edges that a call makes; walks of edges and its function literal. -/
namespace Go.Proofs.YtlamhfbdeinkkaeGreat.Ma
open Go.RowKit Go.Maps Go.WideMaps
set_option linter.unusedSimpArgs false
set_option linter.unusedVariables false

def cellsE (l : List Edge) : List Value := l.flatMap fun s => [.int .i64 s.1, .int .i64 s.2]
theorem cellsE_get (l : List Edge) (i : Nat) (h : i < l.length) : (cellsE l)[i * 2]? = some (.int .i64 l[i].1) ∧ (cellsE l)[i * 2 + 1]? = some (.int .i64 l[i].2) := by
  induction l generalizing i with
  | nil => simp at h
  | cons s l ih =>
    cases i with
    | zero => simp [cellsE]
    | succ i =>
      have := ih i (by simpa using h)
      simp only [cellsE, List.flatMap_cons] at this ⊢
      rw [show (i + 1) * 2 = i * 2 + 1 + 1 by omega]
      simpa using this
/-- The value v is a slice of the call's own (blocks from base on) that holds the edges l. -/
abbrev OwnE (w : World) (base : Nat) (v : Value) (l : List Edge) : Prop := w.ownsRow base 85 2 v l.length (cellsE l)
theorem OwnE.at {w : World} {base : Nat} {v : Value} {l : List Edge} (h : OwnE w base v l) : ∃ ao cap, v = .slice ao l.length cap ∧ EdgesAt w ao cap l := by
  rcases h.2 with ⟨rfl, h0⟩ | ⟨g, cap, cur, rfl, hb, hg, hn, hm, hs, ht⟩
  · refine ⟨none, 0, by rw [h0], by omega, by simp [maxLen], fun _ => rfl, by omega⟩
  · refine ⟨some ⟨g, 0, none⟩, cap, rfl, hn, hm, (fun h => by cases h), fun h0 => ⟨g, 0, rfl, ?_, fun i hi => ?_⟩⟩
    · rcases Nat.lt_or_ge g w.heap.size with hlt | hge
      · exact hlt
      · rw [Array.getElem?_eq_none hge] at hg; cases hg
    · obtain ⟨c0, c1⟩ := cellsE_get l i hi
      have k0 := World.ownsRow.cellAt h (i * 2) (by omega)
      have k1 := World.ownsRow.cellAt h (i * 2 + 1) (by omega)
      rw [c0] at k0
      rw [c1] at k1
      refine ⟨[.int .i64 l[i].1, .int .i64 l[i].2], rfl, rfl, fun j u hj => ?_⟩
      match j, hj with
      | 0, hj => simp at hj; subst hj; simpa using k0
      | 1, hj => simp at hj; subst hj; simpa using k1
theorem OwnE.below {w w' : World} {base : Nat} {v : Value} {l : List Edge} (h : OwnE w base v l) (hb : Below w.heap.size w w') : OwnE w' base v l := by
  refine ⟨h.1, ?_⟩
  rcases h.2 with h2 | ⟨g, cap, cur, hv, hg, hh, r⟩
  · exact Or.inl h2
  · refine Or.inr ⟨g, cap, cur, hv, hg, ?_, r⟩
    rw [hb.block g (Array.getElem?_eq_some_iff.1 hh).1]
    exact hh
theorem news_two {w : World} (a b : Int) : ∀ j u, ([.int .i64 a, .int .i64 b] : List Value)[j]? = some u → (w.alloc (.cells #[.int .i64 a, .int .i64 b] 85)).cell? ((⟨w.heap.size, 0, none⟩ : Addr).add j) = some u := by
  intro j u hu
  match j, hu with
  | 0, hu => simp at hu; subst hu; simp [Addr.add]
  | 1, hu => simp at hu; subst hu; simp [Addr.add]

/-- The first right one that a left one has; R, if it has none. -/
def P.rightOf (R : Nat) (s : Nat → Int) (i : Int) : Nat := (List.range R).findIdx (fun r => decide (s r = i))
theorem rightOf_is {R : Nat} {s : Nat → Int} {i : Int} (h : P.rightOf R s i < R) : s (P.rightOf R s i) = i := by
  unfold P.rightOf at *
  have h2 : (List.range R).findIdx (fun r => decide (s r = i)) < (List.range R).length := by simpa using h
  have := List.findIdx_getElem (w := h2)
  simpa using this
theorem rightOf_lt {R : Nat} {s : Nat → Int} {i : Int} {r : Nat} (hr : r < R) (h : s r = i) : P.rightOf R s i < R := by
  unfold P.rightOf
  have := List.findIdx_lt_length_of_exists (p := fun r => decide (s r = i)) (xs := List.range R) ⟨r, by simpa using hr, by simpa using h⟩
  simpa using this

def P.edgeAt (R : Nat) (s : Nat → Int) (i : Nat) : List Edge := if P.rightOf R s i < R then [((i : Int), (P.rightOf R s i : Int))] else []
def P.edgesTo (R : Nat) (s : Nat → Int) (k : Nat) : List Edge := (List.range k).flatMap (P.edgeAt R s)
theorem edgesTo_succ (R : Nat) (s : Nat → Int) (k : Nat) : P.edgesTo R s (k + 1) = P.edgesTo R s k ++ P.edgeAt R s k := by simp [P.edgesTo, List.range_succ]
end Go.Proofs.YtlamhfbdeinkkaeGreat.Ma
/- The walk of crowd. -/
namespace Go.Proofs.YtlamhfbdeinkkaeGreat.Ma
open Go.RowKit Go.Maps Go.WideMaps
set_option linter.unusedSimpArgs false
set_option linter.unusedVariables false

theorem iset_snoc {w : World} {M : Nat} {l : List Int} {k : Int} (h : w.ownsMap Tryz.prog 3 (unitElem (H := Unit)) M (l.length + 1) ((setOf (.agg []) (l.map P.litI)).put (P.litI k) (.agg []))) : ISet w M (l ++ [k]) := by
  show World.ownsMap _ _ _ _ _ _ _
  rw [List.map_append, List.map_cons, List.map_nil, setOf_snoc, List.length_append]
  exact h

/-- 'marks{n: {}}': an entry of a set of numbers that is written out: what Go does there is what it does at 'm[n] = ..'. -/
theorem wpList_insert_int {ops : Array Oper} {rest : List Oper} {o : Oper} {a : Act} {Q : Exit → Act → World → Prop} {W : World} (B : Nat) (l : List Int) (n : Int) (hset : ISet W B l) (hl : l.length ≤ 1000) (hn : (Lit.int .i64 n).wf = true) (mo xo vo : Operand)
    (hop : o.op = Op.insert 202 mo xo vo) (hgd : o.guard = none) (em : a.eval mo = .map (some B)) (ex : a.eval xo = .int .i64 n) (ev : a.eval vo = .agg #[])
    (next : ∀ W', ISet W' B (l ++ [n]) → W.grownBy W' (some B) → wpList Tryz.prog ops Q rest (a.put o.dst undef) W') : wpList Tryz.prog ops Q (o :: rest) a W := by
  obtain ⟨W', run, set', grown⟩ := hset.update Tryz.lawI Tryz.underlying202 (by simp only [maxLen]; omega) (keyOf_int_mk Tryz.underlying3 hn) unitElem_mk
  refine wpList_plain hgd fun C hC => ?_
  unfold Oper.wp
  simp [execOp, hop, em, ex, ev, run, Result.andThen]
  exact hC _ _ (next W' (iset_snoc set') grown)

/-- Those who are in the crowd, of the right ones ahead of k. -/
def P.inAt (s : Nat → Int) (A : List Int) (r : Nat) : List Int := if P.hasInt A r = true then [s r] else []
def P.inTo (s : Nat → Int) (A : List Int) (x : Int) (k : Nat) : List Int := x :: (List.range k).flatMap (P.inAt s A)
theorem inTo_succ (s : Nat → Int) (A : List Int) (x : Int) (k : Nat) : P.inTo s A x (k + 1) = P.inTo s A x k ++ P.inAt s A k := by simp [P.inTo, List.range_succ]
theorem inTo_len (s : Nat → Int) (A : List Int) (x : Int) (k : Nat) : (P.inTo s A x k).length ≤ k + 1 := by
  induction k with
  | zero => simp [P.inTo]
  | succ k ih =>
    rw [inTo_succ, List.length_append]
    have : (P.inAt s A k).length ≤ 1 := by unfold P.inAt; split <;> simp
    omega
def P.crAt (L : List Int) (i : Nat) : List Int := if P.hasInt L i = true then [(i : Int)] else []
def P.crowd (L : List Int) (k : Nat) : List Int := (List.range k).flatMap (P.crAt L)
theorem crowd_succ (L : List Int) (k : Nat) : P.crowd L (k + 1) = P.crowd L k ++ P.crAt L k := by simp [P.crowd, List.range_succ]
theorem crowd_len (L : List Int) (k : Nat) : (P.crowd L k).length ≤ k := by
  induction k with
  | zero => simp [P.crowd]
  | succ k ih =>
    rw [crowd_succ, List.length_append]
    have : (P.crAt L k).length ≤ 1 := by unfold P.crAt; split <;> simp
    omega

set_option maxHeartbeats 4000000 in
theorem crowd_any (n R B G M : Nat) (s : Nat → Int) (A : List Int) (x : Int) (w : World) (hn : n ≤ 16) (hR : R ≤ 16) (hG : w.rowIs G 3 R (fun r => .int .i64 (s r))) (hM : ISet w M A) (hx : 0 ≤ x ∧ x < (n : Int)) (hs : ∀ r, r < R → (r : Int) ∈ A → 0 ≤ s r ∧ s r < (n : Int)) :
    Calls Tryz.prog 178 #[.agg #[.int .i64 n, .int .i64 R, .map (some B), .slice (some ⟨G, 0, none⟩) R R], .int .i64 x, .map (some M)] w fun e w' => ∃ v, e = .returned v ∧ OwnI w' w.heap.size v (P.crowd (P.inTo s A x R) n) ∧ Below w.heap.size w w' := by
  have hGl := hG.lt
  have hMl := hM.lt
  have hmm := @run_makeMap Tryz.prog
  have hwf := wf_small (n := x) (by omega)
  have HS : Aside (∀ r, r < R → (r : Int) ∈ A → 0 ≤ s r ∧ s r < (n : Int)) := hs
  clear hs
  go_enter Tryz.func178, Tryz.ntmps178
  have hs0 : ISet ((w.alloc (.cells #[.int .i64 n, .int .i64 R, .map (some B), .slice (some ⟨G, 0, none⟩) R R] 199)).alloc (.map #[] 0)) (w.heap.size + 1) [] := by
    have := ISet.made (w.alloc (.cells #[.int .i64 n, .int .i64 R, .map (some B), .slice (some ⟨G, 0, none⟩) R R] 199))
    simpa using this
  go_wp2_with (refine wpList_insert_int (w.heap.size + 1) [] x hs0 (by simp) hwf (.tmp 11) (.tmp 12) (.tmp 13) rfl rfl rfl rfl rfl ?_; intro w1 hown1 hgrow1; have c0 : w1.cell? ⟨w.heap.size, 0, none⟩ = some (.int .i64 n) := hgrow1.cell (by go_simp) (by simp); have c1 : w1.cell? ⟨w.heap.size, 1, none⟩ = some (.int .i64 R) := hgrow1.cell (by go_simp) (by simp); have c3 : w1.cell? ⟨w.heap.size, 3, none⟩ = some (.slice (some ⟨G, 0, none⟩) R R) := hgrow1.cell (by go_simp) (by simp))
  have hB1 : Below w.heap.size w w1 := grown_below_map (w := (w.alloc (.cells #[.int .i64 n, .int .i64 R, .map (some B), .slice (some ⟨G, 0, none⟩) R R] 199)).alloc (.map #[] 0)) (by go_grown) (by omega) hgrow1
  have hset1 : ISet w1 (w.heap.size + 1) (P.inTo s A x 0) := by
    simpa [P.inTo] using hown1
  clear hown1 hgrow1 hs0 hmm
  go_loopg [18] R (fun g i wr => ∃ (k : Nat), k ≤ R ∧ g = R - k ∧ i = .int .i64 k ∧ ISet wr (w.heap.size + 1) (P.inTo s A x k) ∧ wr.cell? ⟨w.heap.size, 0, none⟩ = some (.int .i64 n) ∧ wr.cell? ⟨w.heap.size, 1, none⟩ = some (.int .i64 R) ∧ wr.cell? ⟨w.heap.size, 3, none⟩ = some (.slice (some ⟨G, 0, none⟩) R R) ∧ Below w.heap.size w wr)
  case atStart => exact ⟨0, Nat.zero_le _, rfl, rfl, hset1, c0, c1, c3, hB1⟩
  case round =>
    clear hset1 c0 c1 c3 hB1
    obtain ⟨k, hk, rfl, rfl, hset, c0, c1, c3, hB⟩ := hrel
    by_cases hlt : k < R
    · have HI : Aside (P.inTo s A x (k + 1) = P.inTo s A x k ++ P.inAt s A k) := inTo_succ s A x k
      have hil := inTo_len s A x k
      generalize P.inTo s A x k = L at HI hil hset
      go_wp2_with fail
      refine (marksHas_any M A k _ (set_below hM hB) (by omega)).mono ?_
      rintro e w2 ⟨rfl, hb2⟩
      have hB2 := bvia hB hb2
      have d0 := cellIn hb2 c0
      have d1 := cellIn hb2 c1
      have d3 := cellIn hb2 c3
      have hset2 : ISet w2 (w.heap.size + 1) L := set_below hset hb2
      clear hset c0 c1 c3 hb2
      cases hm : P.hasInt A k
      · have HE : Aside (P.inAt s A k = []) := by show _ = _; rw [P.inAt, hm]; rfl
        go_wp2
        go_roundg (R - (k + 1))
        case measure => omega
        case rel => exact ⟨k + 1, by omega, rfl, by go_num, by rw [HI.out, HE.out, List.append_nil]; exact hset2, d0, d1, d3, hB2⟩
      · have HE : Aside (P.inAt s A k = [s k]) := by show _ = _; rw [P.inAt, hm]; rfl
        have hsk := HS.out k hlt ((hasInt_iff _ _).1 hm)
        have hce := (hG.of_block (hB2.block G hGl)).cell hlt
        generalize s k = y at hsk hce HE
        have hwy := wf_small (n := y) (by omega)
        have i1 : (k : Int) < (R : Int) := by omega
        have i2 : (0 : Int) ≤ (k : Int) := by omega
        go_wp2_with (at_mapUpdate; refine wpList_mapUpdate_own _ rfl _ _ _ 202 rfl 3 233 Tryz.lawI Tryz.underlying202 _ (w.heap.size + 1) L.length _ rfl hset2 (by simp only [maxLen]; omega) _ _ (P.litI y) rfl rfl (keyOf_int_mk Tryz.underlying3 hwy) _ [] unitElem_mk ?_; intro w3 hown3 hgrow3)
        go_roundg (R - (k + 1))
        case measure => omega
        case rel => exact ⟨k + 1, by omega, rfl, by go_num, by rw [HI.out, HE.out]; exact iset_snoc hown3, hgrow3.cell d0 (by simp), hgrow3.cell d1 (by simp), hgrow3.cell d3 (by simp), grown_below_map hB2 (by omega) hgrow3⟩
    · obtain rfl : k = R := by omega
      obtain ⟨L, hL⟩ : ∃ L, P.inTo s A x k = L := ⟨_, rfl⟩
      rw [hL] at hset
      have HL : Aside (P.inTo s A x k = L) := hL
      clear hL
      have hsl := hset.lt
      go_wp2
      go_loopg [9, 35] n (fun g v i wx => ∃ (j : Nat), j ≤ n ∧ g = n - j ∧ i = .int .i64 j ∧ OwnI wx (w.heap.size + 1 + 1) v (P.crowd L j) ∧ ISet wx (w.heap.size + 1) L ∧ Below w.heap.size w wx)
      case atStart => exact ⟨0, Nat.zero_le _, rfl, rfl, World.ownsRow_nil _ _ _ _, hset, hB⟩
      case round =>
        clear hset c0 c1 c3 hB hsl
        obtain ⟨j, hj, rfl, rfl, hown, hset, hB⟩ := hrel
        have hsl := hset.lt
        by_cases hjn : j < n
        · have HC : Aside (P.crowd L (j + 1) = P.crowd L j ++ P.crAt L j) := crowd_succ L j
          have hcl := crowd_len L j
          generalize P.crowd L j = acc at HC hcl hown
          go_wp2_with fail
          refine (marksHas_any (w.heap.size + 1) L j _ hset (by omega)).mono ?_
          rintro e w2 ⟨rfl, hb2⟩
          have hB2 := bvia hB hb2
          have hset2 : ISet w2 (w.heap.size + 1) L := set_below hset hb2
          have hown2 := hown.below hb2
          have hs2 := hset2.lt
          clear hset hown hb2
          cases hm : P.hasInt L j
          · have HE : Aside (P.crAt L j = []) := by show _ = _; rw [P.crAt, hm]; rfl
            go_wp2
            go_roundg (n - (j + 1))
            case measure => omega
            case rel => exact ⟨j + 1, by omega, rfl, by go_num, by rw [HC.out, HE.out, List.append_nil]; exact hown2, hset2, hB2⟩
          · have HE : Aside (P.crAt L j = [(j : Int)]) := by show _ = _; rw [P.crAt, hm]; rfl
            go_wp2_with (at_builtin; refine wpList_append_int rfl (.tmp 41) (.tmp 43) rfl (w.heap.size + 1 + 1) _ acc j rfl hown2 _ rfl rfl (by omega) (by omega) ?_; intro v3 w3 hown3 hgr3)
            go_roundg (n - (j + 1))
            case measure => omega
            case rel => exact ⟨j + 1, by omega, rfl, by go_num, by rw [HC.out, HE.out]; exact hown3, hset2.kept hgr3 (fun e => by have := (hown2.lt _ e.symm).1; omega), grownI_below hB2 hown2 (by omega) hgr3⟩
        · obtain rfl : j = n := by omega
          go_wp2
          go_ret
          exact ⟨_, rfl, by rw [HL.out]; exact World.ownsRow.mono hown (show w.heap.size ≤ w.heap.size + 1 + 1 by omega), hB⟩

end Go.Proofs.YtlamhfbdeinkkaeGreat.Ma
/- Plain facts on what Most and Lack answer. -/
namespace Go.Proofs.YtlamhfbdeinkkaeGreat.Ma
set_option linter.unusedSimpArgs false
set_option linter.unusedVariables false

/-- s is the matching behind the left ones of Y, D what is dead. -/
def Known (E : List Edge) (R : Nat) (s : Nat → Int) (k : Nat) : Prop :=
  ∃ Y D : List Int, (∀ y : Int, y ∈ Y ↔ 0 ≤ y ∧ y < (k : Int)) ∧ Mtch E R s Y ∧ DeadIn E R s Y D
theorem known_none (E : List Edge) (R : Nat) : Known E R (fun _ => -1) 0 :=
  ⟨[], [], fun y => by simp <;> omega, ⟨fun r _ h => absurd rfl h, fun r r' _ _ h => absurd rfl h⟩, ⟨fun r _ h => by simp at h, fun y h => by simp at h⟩⟩
theorem known_next {E : List Edge} {R : Nat} {s s' : Nat → Int} {k : Nat} {A' : List Int} {b : Bool} (h : Known E R s k) (hno : b = false → s' = s ∧ Dead E R s [] A' ∧ ∀ q : Int, ((k : Int), q) ∈ E → q ∈ A') (hyes : b = true → ∃ p, s' = P.shift s k p ∧ Path E R s [] k p) : Known E R s' (k + 1) := by
  obtain ⟨Y, D, hY, hM, hD⟩ := h
  have hYn : ∀ y : Int, y ∈ (k : Int) :: Y ↔ 0 ≤ y ∧ y < ((k + 1 : Nat) : Int) := by
    intro y
    rw [List.mem_cons, hY]
    omega
  have hk : ¬ (k : Int) ∈ Y := by rw [hY]; omega
  have hY1 : ∀ y ∈ Y, y ≠ -1 := fun y hy => by have := (hY y).1 hy; omega
  cases b with
  | false =>
    obtain ⟨rfl, h2, h3⟩ := hno rfl
    exact ⟨(k : Int) :: Y, D ++ A', hYn, mtch_more hM, dead_more hD h2 h3⟩
  | true =>
    obtain ⟨p, rfl, hp⟩ := hyes rfl
    exact ⟨(k : Int) :: Y, D, hYn, mtch_path hM (by omega) hk hp, dead_path hD hY1 (by omega) hp⟩
theorem known_right {E : List Edge} {n R : Nat} {s : Nat → Int} {k : Nat} (h : Known E R s k) (hn : n ≤ 16) (hR : R ≤ 16) (hE : ∀ x ∈ E, 0 ≤ x.1 ∧ x.1 < (n : Int) ∧ 0 ≤ x.2 ∧ x.2 < (R : Int)) : Right n R E s := by
  obtain ⟨Y, D, hY, hM, hD⟩ := h
  refine ⟨hn, hR, hE, fun r hr => ?_⟩
  by_cases e : s r = -1
  · exact .inl e
  · have := hE _ (hM.edge r hr e).1
    exact .inr ⟨this.1, this.2.1⟩

theorem mem_edgesTo {R : Nat} {s : Nat → Int} {k : Nat} {z : Edge} : z ∈ P.edgesTo R s k ↔ ∃ i, i < k ∧ P.rightOf R s i < R ∧ z = ((i : Int), (P.rightOf R s i : Int)) := by
  unfold P.edgesTo P.edgeAt
  rw [List.mem_flatMap]
  constructor
  · rintro ⟨i, hi, hz⟩
    split at hz
    · rename_i h
      simp at hz
      exact ⟨i, by simpa using hi, h, hz⟩
    · simp at hz
  · rintro ⟨i, hi, h, rfl⟩
    exact ⟨i, by simpa using hi, by rw [if_pos h]; simp⟩
theorem edgesTo_pair (R : Nat) (s : Nat → Int) (k : Nat) : (P.edgesTo R s k).Pairwise (fun a b => a.1 < b.1 ∧ a.2 ≠ b.2) := by
  induction k with
  | zero => simp [P.edgesTo]
  | succ k ih =>
    rw [edgesTo_succ, List.pairwise_append]
    refine ⟨ih, ?_, fun a ha b hb => ?_⟩
    · unfold P.edgeAt
      split <;> simp
    · obtain ⟨i, hi, h1, rfl⟩ := mem_edgesTo.1 ha
      unfold P.edgeAt at hb
      split at hb
      · rename_i h2
        simp at hb
        subst hb
        refine ⟨by simp; omega, fun e => ?_⟩
        have e2 : P.rightOf R s i = P.rightOf R s k := by simp at e; omega
        have a1 := rightOf_is h1
        have a2 := rightOf_is h2
        rw [e2, a2] at a1
        omega
      · simp at hb
theorem edgesTo_is {E : List Edge} {R : Nat} {s : Nat → Int} {n : Nat} {Y : List Int} (hM : Mtch E R s Y) : IsM E (P.edgesTo R s n) := by
  refine ⟨fun z hz => ?_, (edgesTo_pair R s n).imp (fun h => ⟨by omega, h.2⟩)⟩
  obtain ⟨i, hi, h, rfl⟩ := mem_edgesTo.1 hz
  have := (hM.edge _ h (by rw [rightOf_is h]; omega)).1
  rw [rightOf_is h] at this
  exact this
theorem edgesTo_owned {E : List Edge} {R : Nat} {s : Nat → Int} {n : Nat} {Y : List Int} (hY : ∀ y : Int, y ∈ Y ↔ 0 ≤ y ∧ y < (n : Int)) (hM : Mtch E R s Y) : (P.edgesTo R s n).length = (P.owned R s).length := by
  have hnd : ((P.edgesTo R s n).map (fun z => z.2.toNat)).Nodup := by
    rw [List.nodup_iff_pairwise_ne, List.pairwise_map]
    refine List.Pairwise.imp_of_mem ?_ (edgesTo_pair R s n)
    intro a b ha hb h e
    obtain ⟨i, _, _, rfl⟩ := mem_edgesTo.1 ha
    obtain ⟨j, _, _, rfl⟩ := mem_edgesTo.1 hb
    simp at e
    exact h.2 (by simp; omega)
  have h1 := subLen _ (P.owned R s) hnd (fun r hr => by
    obtain ⟨z, hz, rfl⟩ := List.mem_map.1 hr
    obtain ⟨i, hi, h, rfl⟩ := mem_edgesTo.1 hz
    rw [mem_owned]
    simp only [Int.toNat_natCast]
    exact ⟨h, by rw [rightOf_is h]; omega⟩)
  have h2 := subLen (P.owned R s) ((P.edgesTo R s n).map (fun z => z.2.toNat)) (owned_nodup R s) (fun r hr => by
    obtain ⟨hr1, hr2⟩ := mem_owned.1 hr
    have hy := (hY _).1 (hM.edge r hr1 hr2).2
    obtain ⟨i, hi⟩ : ∃ i : Nat, s r = i := ⟨(s r).toNat, by omega⟩
    have hlt := rightOf_lt hr1 hi
    have hsame : P.rightOf R s i = r := (hM.inj r _ hr1 hlt hr2 (by rw [rightOf_is hlt, hi])).symm
    exact List.mem_map.2 ⟨((i : Int), (P.rightOf R s i : Int)), mem_edgesTo.2 ⟨i, by omega, hlt, rfl⟩, by simp [hsame]⟩)
  simp at h1 h2
  omega
theorem known_max {E : List Edge} {n R : Nat} {s : Nat → Int} (hE : ∀ x ∈ E, 0 ≤ x.1 ∧ x.1 < (n : Int) ∧ 0 ≤ x.2 ∧ x.2 < (R : Int)) (h : Known E R s n) : IsM E (P.edgesTo R s n) ∧ MaxM E (P.edgesTo R s n).length := by
  obtain ⟨Y, D, hY, hM, hD⟩ := h
  have h1 := edgesTo_is (n := n) hM
  have h2 := edgesTo_owned hY hM
  refine ⟨h1, ⟨_, h1, rfl⟩, fun m hm => ?_⟩
  rw [h2]
  exact dead_max hE (fun y h3 h4 => (hY y).2 ⟨h3, h4⟩) hD m hm
/-- All left ones ahead of k have one. -/
def AllHave (R : Nat) (s : Nat → Int) (k : Nat) : Prop := ∀ y : Nat, y < k → ∃ r, r < R ∧ s r = y
theorem all_len {R : Nat} {s : Nat → Int} : ∀ {n : Nat}, AllHave R s n → (P.edgesTo R s n).length = n := by
  intro n
  induction n with
  | zero => intro _; simp [P.edgesTo]
  | succ n ih =>
    intro h
    rw [edgesTo_succ, List.length_append, ih (fun y hy => h y (by omega))]
    obtain ⟨r, h1, h2⟩ := h n (by omega)
    rw [P.edgeAt, if_pos (rightOf_lt h1 h2)]
    rfl
theorem all_next {E : List Edge} {R : Nat} {s : Nat → Int} {k : Nat} {p : List Nat} (h : AllHave R s k) (hp : Path E R s [] k p) : AllHave R (P.shift s k p) (k + 1) := by
  intro y hy
  by_cases e : y = k
  · exact (path_owners hp (by omega)).2 (.inl (by rw [e]))
  · exact (path_owners hp (by omega)).2 (.inr (h y (by omega)))

/-- Left ones K lack: they rise, all their right ones are of A, which has fewer. -/
structure Lacks (E : List Edge) (n : Nat) (K : List Int) : Prop where
  rise : K.Pairwise (fun a b => a < b)
  rng : ∀ k ∈ K, 0 ≤ k ∧ k < (n : Int)
  few : ∃ A : List Int, A.Nodup ∧ A.length < K.length ∧ ∀ x q : Int, (x, q) ∈ E → x ∈ K → q ∈ A
theorem mem_crowd {L : List Int} {k : Nat} {z : Int} : z ∈ P.crowd L k ↔ ∃ i : Nat, i < k ∧ (i : Int) ∈ L ∧ z = i := by
  unfold P.crowd P.crAt
  rw [List.mem_flatMap]
  constructor
  · rintro ⟨i, hi, hz⟩
    split at hz
    · rename_i h
      simp at hz
      exact ⟨i, by simpa using hi, (hasInt_iff _ _).1 h, hz⟩
    · simp at hz
  · rintro ⟨i, hi, h, rfl⟩
    exact ⟨i, by simpa using hi, by rw [if_pos ((hasInt_iff _ _).2 h)]; simp⟩
theorem crowd_rise (L : List Int) (k : Nat) : (P.crowd L k).Pairwise (fun a b => a < b) := by
  induction k with
  | zero => simp [P.crowd]
  | succ k ih =>
    rw [crowd_succ, List.pairwise_append]
    refine ⟨ih, ?_, fun a ha b hb => ?_⟩
    · unfold P.crAt
      split <;> simp
    · obtain ⟨i, hi, h1, rfl⟩ := mem_crowd.1 ha
      unfold P.crAt at hb
      split at hb
      · simp at hb; omega
      · simp at hb
theorem mem_inTo {s : Nat → Int} {A : List Int} {x : Int} {k : Nat} {z : Int} : z ∈ P.inTo s A x k ↔ z = x ∨ ∃ r : Nat, r < k ∧ (r : Int) ∈ A ∧ z = s r := by
  unfold P.inTo P.inAt
  rw [List.mem_cons, List.mem_flatMap]
  constructor
  · rintro (h | ⟨i, hi, hz⟩)
    · exact .inl h
    · split at hz
      · rename_i h
        simp at hz
        exact .inr ⟨i, by simpa using hi, (hasInt_iff _ _).1 h, hz⟩
      · simp at hz
  · rintro (h | ⟨i, hi, h, rfl⟩)
    · exact .inl h
    · exact .inr ⟨i, by simpa using hi, by rw [if_pos ((hasInt_iff _ _).2 h)]; simp⟩
theorem crowd_lacks {E : List Edge} {n R : Nat} {s : Nat → Int} {k : Nat} {A : List Int} (hE : ∀ x ∈ E, 0 ≤ x.1 ∧ x.1 < (n : Int) ∧ 0 ≤ x.2 ∧ x.2 < (R : Int)) (h : Known E R s k) (hk : k < n) (hA : Dead E R s [] A) (hx : ∀ q : Int, ((k : Int), q) ∈ E → q ∈ A) : Lacks E n (P.crowd (P.inTo s A k R) n) := by
  obtain ⟨Y, D, hY, hM, hD⟩ := h
  have hs : ∀ r : Nat, (r : Int) ∈ A → r < R ∧ s r ≠ -1 ∧ 0 ≤ s r ∧ s r < (k : Int) := by
    intro r hr
    have h1 := hA.rng r hr
    have h2 := (hA.own r hr (by simp)).1
    have h3 := (hY _).1 (hM.edge r (by omega) h2).2
    exact ⟨by omega, h2, h3.1, h3.2⟩
  refine ⟨crowd_rise _ _, fun z hz => ?_, A, hA.nodup, ?_, fun x q he hxK => ?_⟩
  · obtain ⟨i, hi, _, rfl⟩ := mem_crowd.1 hz
    omega
  · have hnd : ((k : Int) :: A.map (fun a => s a.toNat)).Nodup := by
      refine List.nodup_cons.2 ⟨fun hm => ?_, ?_⟩
      · obtain ⟨a, ha, e⟩ := List.mem_map.1 hm
        have h1 := hA.rng a ha
        have h2 := hs a.toNat (by rw [Int.toNat_of_nonneg h1.1]; exact ha)
        omega
      · rw [List.nodup_iff_pairwise_ne, List.pairwise_map]
        refine List.Pairwise.imp_of_mem ?_ hA.nodup
        intro a b ha hb hne e
        have h1 := hA.rng a ha
        have h2 := hA.rng b hb
        have h3 := hs a.toNat (by rw [Int.toNat_of_nonneg h1.1]; exact ha)
        have := hM.inj a.toNat b.toNat (by omega) (by omega) h3.2.1 e
        omega
    have := subLen _ (P.crowd (P.inTo s A k R) n) hnd (fun z hz => by
      rcases List.mem_cons.1 hz with rfl | hz
      · exact mem_crowd.2 ⟨k, hk, mem_inTo.2 (.inl rfl), rfl⟩
      · obtain ⟨a, ha, rfl⟩ := List.mem_map.1 hz
        have h1 := hA.rng a ha
        have h2 := hs a.toNat (by rw [Int.toNat_of_nonneg h1.1]; exact ha)
        exact mem_crowd.2 ⟨(s a.toNat).toNat, by omega, mem_inTo.2 (.inr ⟨a.toNat, h2.1, by rw [Int.toNat_of_nonneg h1.1]; exact ha, by omega⟩), by omega⟩)
    simp at this
    omega
  · obtain ⟨i, hi, h1, rfl⟩ := mem_crowd.1 hxK
    rcases mem_inTo.1 h1 with h2 | ⟨r, h2, h3, h4⟩
    · exact hx q (by rw [← h2]; exact he)
    · exact (hA.own r h3 (by simp)).2 q (by rw [← h4]; exact he)

/-- Where some lack, no matching has all left ones. -/
theorem lacks_max {E : List Edge} {n : Nat} {K : List Int} {m : List Edge} (hE : ∀ x ∈ E, 0 ≤ x.1 ∧ x.1 < (n : Int)) (hK : Lacks E n K) (hm : IsM E m) : m.length < n := by
  obtain ⟨A, hA1, hA2, hA3⟩ := hK.few
  have hle : m.length ≤ n := by
    have hnd : (m.map (fun z => z.1)).Nodup := by
      rw [List.nodup_iff_pairwise_ne, List.pairwise_map]
      exact hm.2.imp (fun h => h.1)
    have := pigeon n _ hnd (fun x hx => by
      obtain ⟨z, hz, rfl⟩ := List.mem_map.1 hx
      exact hE z (hm.1 z hz))
    simpa using this
  rcases Nat.lt_or_ge m.length n with h | h
  · exact h
  · exfalso
    have hmn : m.length = n := by omega
    have hnd : (m.map (fun z => z.1)).Nodup := by
      rw [List.nodup_iff_pairwise_ne, List.pairwise_map]
      exact hm.2.imp (fun h => h.1)
    -- every left one stands in m
    have hall : ∀ y : Int, 0 ≤ y → y < (n : Int) → y ∈ m.map (fun z => z.1) := by
      intro y h0 h1
      by_cases e : y ∈ m.map (fun z => z.1)
      · exact e
      · exfalso
        have := pigeon n (y :: m.map (fun z => z.1)) (List.nodup_cons.2 ⟨e, hnd⟩) (fun x hx => by
          rcases List.mem_cons.1 hx with rfl | hx
          · exact ⟨h0, h1⟩
          · obtain ⟨z, hz, rfl⟩ := List.mem_map.1 hx
            exact hE z (hm.1 z hz))
        simp at this
        omega
    have hf1 : K.length ≤ ((m.filter (fun z => decide (z.1 ∈ K))).map (fun z => z.1)).length := by
      refine subLen K _ (hK.rise.imp (fun h => by omega)) (fun y hy => ?_)
      have hr := hK.rng y hy
      obtain ⟨z, hz, rfl⟩ := List.mem_map.1 (hall y hr.1 hr.2)
      exact List.mem_map.2 ⟨z, List.mem_filter.2 ⟨hz, by simpa using hy⟩, rfl⟩
    have hf2 : ((m.filter (fun z => decide (z.1 ∈ K))).map (fun z => z.2)).length ≤ A.length := by
      refine subLen _ A ?_ (fun q hq => ?_)
      · rw [List.nodup_iff_pairwise_ne, List.pairwise_map]
        exact (hm.2.filter _).imp (fun h => h.2)
      · obtain ⟨z, hz, rfl⟩ := List.mem_map.1 hq
        obtain ⟨h1, h2⟩ := List.mem_filter.1 hz
        exact hA3 z.1 z.2 (hm.1 z h1) (by simpa using h2)
    simp at hf1 hf2
    omega

end Go.Proofs.YtlamhfbdeinkkaeGreat.Ma
/- Walks of Most and Lack. -/
namespace Go.Proofs.YtlamhfbdeinkkaeGreat.Ma
open Go.RowKit Go.Maps Go.WideMaps
set_option linter.unusedSimpArgs false
set_option linter.unusedVariables false

/-- What lies in memory between two calls of find. -/
structure MAt (w : World) (gp n R B G : Nat) (E : List Edge) (s : Nat → Int) : Prop where
  edges : ESet w B E
  owner : w.rowIs G 3 R (fun r => .int .i64 (s r))
  p0 : w.cell? ⟨gp, 0, none⟩ = some (.int .i64 n)
  p1 : w.cell? ⟨gp, 1, none⟩ = some (.int .i64 R)
  p2 : w.cell? ⟨gp, 2, none⟩ = some (.map (some B))
  p3 : w.cell? ⟨gp, 3, none⟩ = some (.slice (some ⟨G, 0, none⟩) R R)
  bg : B ≠ G
  pg : gp ≠ G
theorem MAt.pst {w : World} {gp n R B G : Nat} {E : List Edge} {s : Nat → Int} (h : MAt w gp n R B G E s) : PSt (w.alloc (.map #[] 0)) B G w.heap.size E R s [] :=
  ⟨h.edges.alloc _, h.owner.alloc _, ISet.made w, h.bg, fun e => by have := h.edges.lt; omega, fun e => by have := h.owner.lt; omega⟩
theorem MAt.next {w w' : World} {gp n R B G M : Nat} {E : List Edge} {s s' : Nat → Int} {A : List Int} (h : MAt w gp n R B G E s) (hM : M = w.heap.size) (hm : Mut G M (w.alloc (.map #[] 0)) w') (hp : PSt w' B G M E R s' A) : MAt w' gp n R B G E s' := by
  have hlt : gp < w.heap.size := World.block_lt_of_cell? w _ h.p0
  have hne : gp ≠ M := by omega
  exact ⟨hp.edges, hp.owner, hm.cell (cellIn (by go_grown) h.p0) h.pg hne, hm.cell (cellIn (by go_grown) h.p1) h.pg hne, hm.cell (cellIn (by go_grown) h.p2) h.pg hne, hm.cell (cellIn (by go_grown) h.p3) h.pg hne, h.bg, h.pg⟩

set_option maxHeartbeats 4000000 in
theorem lack_any (ao : Option Addr) (cap : Nat) (l : List Edge) (n m : Int) (w : World) (hl : EdgesAt w ao cap l) :
    Calls Tryz.prog 113 #[.int .i64 n, .int .i64 m, .slice ao l.length cap] w fun e w' => ∃ v k, e = .returned (.tuple #[v, .int .i64 (P.graphE n m l)]) ∧ OwnI w' w.heap.size v k ∧ Below w.heap.size w w' ∧
      (P.graphE n m l ≠ 0 → k = []) ∧ (P.graphE n m l = 0 → (k = [] ∧ MaxM l n.toNat) ∨ Lacks l n.toNat k) := by
  by_cases hz : P.graphE n m l = 0
  · obtain ⟨n0, n16, m0, m16, hE, _⟩ := graphE_zero hz
    obtain ⟨N, rfl⟩ : ∃ N : Nat, n = N := ⟨n.toNat, by omega⟩
    obtain ⟨R, rfl⟩ : ∃ R : Nat, m = R := ⟨m.toNat, by omega⟩
    have HZ : Aside (P.graphE N R l = 0) := hz
    have HE : Aside (∀ x ∈ l, 0 ≤ x.1 ∧ x.1 < (N : Int) ∧ 0 ≤ x.2 ∧ x.2 < (R : Int)) := hE
    have hmm := @run_makeMap Tryz.prog
    clear hE hz
    go_enter Tryz.func113, Tryz.ntmps113
    go_wp2_with fail
    refine (read_any ao cap l N R w hl).mono ?_
    rintro e w1 ⟨v, rfl, hb1, _, hok⟩
    obtain ⟨rfl, hset1⟩ := hok HZ.out
    rw [HZ.out]
    clear hok
    go_wp2_with fail
    refine (noPairs_any N R (w.heap.size + 1) (by omega) _).mono ?_
    rintro e w2 ⟨rfl, hrow2, hb2⟩
    have hb12 : Below w1.heap.size w1 w2 := bvia (by go_grown) hb2
    have hB2 : Below w.heap.size w w2 := bvia hb1 hb12
    have hset2 : ESet w2 (w.heap.size + 1) l := set_below hset1 hb12
    have g0 : w2.cell? ⟨w1.heap.size, 0, none⟩ = some (.int .i64 N) := cellIn hb2 (by simp)
    have hlt1 : w1.heap.size < w2.heap.size := World.block_lt_of_cell? w2 _ g0
    have hs1 := hset1.lt
    simp only [World.size_alloc] at hrow2
    have hgl := hrow2.lt
    clear hset1 hb12 hb2
    go_wp2
    have hat : MAt (w2.alloc (.cells #[.int .i64 N, .int .i64 R, .map (some (w.heap.size + 1)), .slice (some ⟨w1.heap.size + 1 + 1 + 1, 0, none⟩) R R] 199)) w2.heap.size N R (w.heap.size + 1) (w1.heap.size + 1 + 1 + 1) l (fun _ => -1) :=
      ⟨hset2.alloc _, hrow2.alloc _, by simp, by simp, by simp, by simp, by omega, by omega⟩
    have hw1 := hb1.size
    go_loopg [27] N (fun g i wr => ∃ (k : Nat) (s : Nat → Int), k ≤ N ∧ g = N - k ∧ i = .int .i64 k ∧ MAt wr w2.heap.size N R (w.heap.size + 1) (w1.heap.size + 1 + 1 + 1) l s ∧ Known l R s k ∧ AllHave R s k ∧ Below w.heap.size w wr)
    case atStart => exact ⟨0, _, Nat.zero_le _, rfl, rfl, hat, known_none l R, (fun y h => by omega), bvia hB2 (by go_grown)⟩
    case round =>
      clear hat hset2 hrow2 hgl hB2 g0
      obtain ⟨k, s, hk, rfl, rfl, hat, hkn, hah, hB⟩ := hrel
      have HK : Aside (Known l R s k ∧ AllHave R s k) := ⟨hkn, hah⟩
      clear hkn hah
      have c0 := hat.p0
      have c1 := hat.p1
      have c2 := hat.p2
      have c3 := hat.p3
      have hgpl : w2.heap.size < wr.heap.size := World.block_lt_of_cell? wr _ c0
      by_cases hlt : k < N
      · go_wp2_with fail
        refine (find_any N R _ _ _ l s (known_right HK.out.1 (by omega) (by omega) HE.out) k _ (by omega) (by omega) hat.pst).mono ?_
        rintro e w3 ⟨b, A', s', rfl, hst3, hm3, hno, hyes⟩
        have hat3 := hat.next rfl hm3 hst3
        have HK3 : Aside (Known l R s' (k + 1)) := known_next HK.out.1 hno hyes
        have hB3 : Below w.heap.size w w3 := hm3.below (bvia hB (by go_grown)) (by omega) (by have := hB.size; omega)
        cases b with
        | true =>
          have HA3 : Aside (AllHave R s' (k + 1)) := by obtain ⟨p, e1, e2⟩ := hyes rfl; rw [e1]; exact all_next HK.out.2 e2
          clear hno hyes hst3 hm3 HK hat c0 c1 c2 c3
          go_wp2
          go_roundg (N - (k + 1))
          case measure => omega
          case rel => exact ⟨k + 1, s', by omega, rfl, by go_num, hat3, HK3.out, HA3.out, hB3⟩
        | false =>
          obtain ⟨rfl, hD, hq⟩ := hno rfl
          have hr := known_right HK.out.1 (n := N) (by omega) (by omega) HE.out
          have hsA : ∀ r, r < R → (r : Int) ∈ A' → 0 ≤ s' r ∧ s' r < (N : Int) := fun r h1 h2 => by
            have h3 := (hD.own r h2 (by simp)).1
            rcases hr.own r h1 with h4 | h4
            · exact absurd h4 h3
            · exact h4
          have HF : Aside (Lacks l N (P.crowd (P.inTo s' A' k R) N)) := crowd_lacks HE.out HK.out.1 hlt hD hq
          have HSA : Aside (∀ r, r < R → (r : Int) ∈ A' → 0 ≤ s' r ∧ s' r < (N : Int)) := hsA
          clear hno hyes hm3 HK hat c0 c1 c2 c3 hD hq hr HK3 hsA
          have c0 := hat3.p0
          have c1 := hat3.p1
          have c2 := hat3.p2
          have c3 := hat3.p3
          go_wp2_with fail
          refine (crowd_any N R _ _ _ s' A' k _ (by omega) (by omega) hat3.owner hst3.asked (by omega) HSA.out).mono ?_
          rintro e w4 ⟨v4, rfl, own4, hb4⟩
          go_wp2
          go_ret2
          exact ⟨v4, _, ret2_int HZ.out.symm, World.ownsRow.mono own4 hB3.size, bvia hB3 hb4, fun h => absurd HZ.out h, fun _ => .inr (by simpa using HF.out)⟩
      · obtain rfl : k = N := by omega
        have hmx := (known_max HE.out HK.out.1).2
        rw [all_len HK.out.2] at hmx
        have HF : Aside (MaxM l k) := hmx
        clear hmx HK
        go_wp2
        go_ret2
        exact ⟨_, [], ret2_int HZ.out.symm, World.ownsRow_nil _ _ _ _, hB, fun _ => rfl, fun _ => .inl ⟨rfl, by simpa using HF.out⟩⟩
  · have HZ : Aside (P.graphE n m l ≠ 0) := hz
    have hz' : (P.graphE n m l != 0) = true := by simpa using hz
    go_enter Tryz.func113, Tryz.ntmps113
    go_wp2_with fail
    refine (read_any ao cap l n m w hl).mono ?_
    rintro e w1 ⟨v, rfl, hb1, hbad, _⟩
    obtain rfl := hbad HZ.out
    clear hbad
    go_wp2
    go_ret2
    exact ⟨_, [], rfl, World.ownsRow_nil _ _ _ _, bvia hb1 (by go_grown), fun _ => rfl, fun h => absurd h HZ.out⟩

end Go.Proofs.YtlamhfbdeinkkaeGreat.Ma
