/- Plain facts on what Most and Lack answer. -/
import Derived.Test.YtcifdkggigfnlabMatJ
namespace Go.Proofs.Ytcifdkggigfnlab
set_option linter.unusedSimpArgs false
set_option linter.unusedVariables false

/-- s is the matching behind the left ones of Y, D what is dead. -/
def Known (E : List Edge) (R : Nat) (s : Nat → Int) (k : Nat) : Prop :=
  ∃ Y D : List Int, (∀ y : Int, y ∈ Y ↔ 0 ≤ y ∧ y < (k : Int)) ∧ Mtch E R s Y ∧ DeadIn E R s Y D
theorem known_none (E : List Edge) (R : Nat) : Known E R (fun _ => -1) 0 :=
  ⟨[], [], fun y => by simp <;> omega, ⟨fun r _ h => absurd rfl h, fun r r' _ _ h => absurd rfl h⟩, ⟨fun r _ h => by simp at h, fun y h => by simp at h⟩⟩
theorem known_next {E : List Edge} {R : Nat} {s s' : Nat → Int} {k : Nat} {A' : List Int} {b : Bool} (h : Known E R s k) (hno : b = false → s' = s ∧ Dead E R s [] A' ∧ ∀ q : Int, ((k : Int), q) ∈ E → q ∈ A') (hyes : b = true → ∃ p, s' = P.shift s k p ∧ Path E R s [] k p) : Known E R s' (k + 1) := by
  obtain ⟨Y, D, hY, hM, hD⟩ := h
  have hYn : ∀ y : Int, y ∈ (k : Int) :: Y ↔ 0 ≤ y ∧ y < ((k + 1 : Nat) : Int) := by
    intro y
    rw [List.mem_cons, hY]
    omega
  have hk : ¬ (k : Int) ∈ Y := by rw [hY]; omega
  have hY1 : ∀ y ∈ Y, y ≠ -1 := fun y hy => by have := (hY y).1 hy; omega
  cases b with
  | false =>
    obtain ⟨rfl, h2, h3⟩ := hno rfl
    exact ⟨(k : Int) :: Y, D ++ A', hYn, mtch_more hM, dead_more hD h2 h3⟩
  | true =>
    obtain ⟨p, rfl, hp⟩ := hyes rfl
    exact ⟨(k : Int) :: Y, D, hYn, mtch_path hM (by omega) hk hp, dead_path hD hY1 (by omega) hp⟩
theorem known_right {E : List Edge} {n R : Nat} {s : Nat → Int} {k : Nat} (h : Known E R s k) (hn : n ≤ 16) (hR : R ≤ 16) (hE : ∀ x ∈ E, 0 ≤ x.1 ∧ x.1 < (n : Int) ∧ 0 ≤ x.2 ∧ x.2 < (R : Int)) : Right n R E s := by
  obtain ⟨Y, D, hY, hM, hD⟩ := h
  refine ⟨hn, hR, hE, fun r hr => ?_⟩
  by_cases e : s r = -1
  · exact .inl e
  · have := hE _ (hM.edge r hr e).1
    exact .inr ⟨this.1, this.2.1⟩

theorem mem_edgesTo {R : Nat} {s : Nat → Int} {k : Nat} {z : Edge} : z ∈ P.edgesTo R s k ↔ ∃ i, i < k ∧ P.rightOf R s i < R ∧ z = ((i : Int), (P.rightOf R s i : Int)) := by
  unfold P.edgesTo P.edgeAt
  rw [List.mem_flatMap]
  constructor
  · rintro ⟨i, hi, hz⟩
    split at hz
    · rename_i h
      simp at hz
      exact ⟨i, by simpa using hi, h, hz⟩
    · simp at hz
  · rintro ⟨i, hi, h, rfl⟩
    exact ⟨i, by simpa using hi, by rw [if_pos h]; simp⟩
theorem edgesTo_pair (R : Nat) (s : Nat → Int) (k : Nat) : (P.edgesTo R s k).Pairwise (fun a b => a.1 < b.1 ∧ a.2 ≠ b.2) := by
  induction k with
  | zero => simp [P.edgesTo]
  | succ k ih =>
    rw [edgesTo_succ, List.pairwise_append]
    refine ⟨ih, ?_, fun a ha b hb => ?_⟩
    · unfold P.edgeAt
      split <;> simp
    · obtain ⟨i, hi, h1, rfl⟩ := mem_edgesTo.1 ha
      unfold P.edgeAt at hb
      split at hb
      · rename_i h2
        simp at hb
        subst hb
        refine ⟨by simp; omega, fun e => ?_⟩
        have e2 : P.rightOf R s i = P.rightOf R s k := by simp at e; omega
        have a1 := rightOf_is h1
        have a2 := rightOf_is h2
        rw [e2, a2] at a1
        omega
      · simp at hb
theorem edgesTo_is {E : List Edge} {R : Nat} {s : Nat → Int} {n : Nat} {Y : List Int} (hM : Mtch E R s Y) : IsM E (P.edgesTo R s n) := by
  refine ⟨fun z hz => ?_, (edgesTo_pair R s n).imp (fun h => ⟨by omega, h.2⟩)⟩
  obtain ⟨i, hi, h, rfl⟩ := mem_edgesTo.1 hz
  have := (hM.edge _ h (by rw [rightOf_is h]; omega)).1
  rw [rightOf_is h] at this
  exact this
theorem edgesTo_owned {E : List Edge} {R : Nat} {s : Nat → Int} {n : Nat} {Y : List Int} (hY : ∀ y : Int, y ∈ Y ↔ 0 ≤ y ∧ y < (n : Int)) (hM : Mtch E R s Y) : (P.edgesTo R s n).length = (P.owned R s).length := by
  have hnd : ((P.edgesTo R s n).map (fun z => z.2.toNat)).Nodup := by
    rw [List.nodup_iff_pairwise_ne, List.pairwise_map]
    refine List.Pairwise.imp_of_mem ?_ (edgesTo_pair R s n)
    intro a b ha hb h e
    obtain ⟨i, _, _, rfl⟩ := mem_edgesTo.1 ha
    obtain ⟨j, _, _, rfl⟩ := mem_edgesTo.1 hb
    simp at e
    exact h.2 (by simp; omega)
  have h1 := subLen _ (P.owned R s) hnd (fun r hr => by
    obtain ⟨z, hz, rfl⟩ := List.mem_map.1 hr
    obtain ⟨i, hi, h, rfl⟩ := mem_edgesTo.1 hz
    rw [mem_owned]
    simp only [Int.toNat_natCast]
    exact ⟨h, by rw [rightOf_is h]; omega⟩)
  have h2 := subLen (P.owned R s) ((P.edgesTo R s n).map (fun z => z.2.toNat)) (owned_nodup R s) (fun r hr => by
    obtain ⟨hr1, hr2⟩ := mem_owned.1 hr
    have hy := (hY _).1 (hM.edge r hr1 hr2).2
    obtain ⟨i, hi⟩ : ∃ i : Nat, s r = i := ⟨(s r).toNat, by omega⟩
    have hlt := rightOf_lt hr1 hi
    have hsame : P.rightOf R s i = r := (hM.inj r _ hr1 hlt hr2 (by rw [rightOf_is hlt, hi])).symm
    exact List.mem_map.2 ⟨((i : Int), (P.rightOf R s i : Int)), mem_edgesTo.2 ⟨i, by omega, hlt, rfl⟩, by simp [hsame]⟩)
  simp at h1 h2
  omega
theorem known_max {E : List Edge} {n R : Nat} {s : Nat → Int} (hE : ∀ x ∈ E, 0 ≤ x.1 ∧ x.1 < (n : Int) ∧ 0 ≤ x.2 ∧ x.2 < (R : Int)) (h : Known E R s n) : IsM E (P.edgesTo R s n) ∧ MaxM E (P.edgesTo R s n).length := by
  obtain ⟨Y, D, hY, hM, hD⟩ := h
  have h1 := edgesTo_is (n := n) hM
  have h2 := edgesTo_owned hY hM
  refine ⟨h1, ⟨_, h1, rfl⟩, fun m hm => ?_⟩
  rw [h2]
  exact dead_max hE (fun y h3 h4 => (hY y).2 ⟨h3, h4⟩) hD m hm
/-- All left ones ahead of k have one. -/
def AllHave (R : Nat) (s : Nat → Int) (k : Nat) : Prop := ∀ y : Nat, y < k → ∃ r, r < R ∧ s r = y
theorem all_len {R : Nat} {s : Nat → Int} : ∀ {n : Nat}, AllHave R s n → (P.edgesTo R s n).length = n := by
  intro n
  induction n with
  | zero => intro _; simp [P.edgesTo]
  | succ n ih =>
    intro h
    rw [edgesTo_succ, List.length_append, ih (fun y hy => h y (by omega))]
    obtain ⟨r, h1, h2⟩ := h n (by omega)
    rw [P.edgeAt, if_pos (rightOf_lt h1 h2)]
    rfl
theorem all_next {E : List Edge} {R : Nat} {s : Nat → Int} {k : Nat} {p : List Nat} (h : AllHave R s k) (hp : Path E R s [] k p) : AllHave R (P.shift s k p) (k + 1) := by
  intro y hy
  by_cases e : y = k
  · exact (path_owners hp (by omega)).2 (.inl (by rw [e]))
  · exact (path_owners hp (by omega)).2 (.inr (h y (by omega)))

/-- Left ones K lack: they rise, all their right ones are of A, which has fewer. -/
structure Lacks (E : List Edge) (n : Nat) (K : List Int) : Prop where
  rise : K.Pairwise (fun a b => a < b)
  rng : ∀ k ∈ K, 0 ≤ k ∧ k < (n : Int)
  few : ∃ A : List Int, A.Nodup ∧ A.length < K.length ∧ ∀ x q : Int, (x, q) ∈ E → x ∈ K → q ∈ A
theorem mem_crowd {L : List Int} {k : Nat} {z : Int} : z ∈ P.crowd L k ↔ ∃ i : Nat, i < k ∧ (i : Int) ∈ L ∧ z = i := by
  unfold P.crowd P.crAt
  rw [List.mem_flatMap]
  constructor
  · rintro ⟨i, hi, hz⟩
    split at hz
    · rename_i h
      simp at hz
      exact ⟨i, by simpa using hi, (hasInt_iff _ _).1 h, hz⟩
    · simp at hz
  · rintro ⟨i, hi, h, rfl⟩
    exact ⟨i, by simpa using hi, by rw [if_pos ((hasInt_iff _ _).2 h)]; simp⟩
theorem crowd_rise (L : List Int) (k : Nat) : (P.crowd L k).Pairwise (fun a b => a < b) := by
  induction k with
  | zero => simp [P.crowd]
  | succ k ih =>
    rw [crowd_succ, List.pairwise_append]
    refine ⟨ih, ?_, fun a ha b hb => ?_⟩
    · unfold P.crAt
      split <;> simp
    · obtain ⟨i, hi, h1, rfl⟩ := mem_crowd.1 ha
      unfold P.crAt at hb
      split at hb
      · simp at hb; omega
      · simp at hb
theorem mem_inTo {s : Nat → Int} {A : List Int} {x : Int} {k : Nat} {z : Int} : z ∈ P.inTo s A x k ↔ z = x ∨ ∃ r : Nat, r < k ∧ (r : Int) ∈ A ∧ z = s r := by
  unfold P.inTo P.inAt
  rw [List.mem_cons, List.mem_flatMap]
  constructor
  · rintro (h | ⟨i, hi, hz⟩)
    · exact .inl h
    · split at hz
      · rename_i h
        simp at hz
        exact .inr ⟨i, by simpa using hi, (hasInt_iff _ _).1 h, hz⟩
      · simp at hz
  · rintro (h | ⟨i, hi, h, rfl⟩)
    · exact .inl h
    · exact .inr ⟨i, by simpa using hi, by rw [if_pos ((hasInt_iff _ _).2 h)]; simp⟩
theorem crowd_lacks {E : List Edge} {n R : Nat} {s : Nat → Int} {k : Nat} {A : List Int} (hE : ∀ x ∈ E, 0 ≤ x.1 ∧ x.1 < (n : Int) ∧ 0 ≤ x.2 ∧ x.2 < (R : Int)) (h : Known E R s k) (hk : k < n) (hA : Dead E R s [] A) (hx : ∀ q : Int, ((k : Int), q) ∈ E → q ∈ A) : Lacks E n (P.crowd (P.inTo s A k R) n) := by
  obtain ⟨Y, D, hY, hM, hD⟩ := h
  have hs : ∀ r : Nat, (r : Int) ∈ A → r < R ∧ s r ≠ -1 ∧ 0 ≤ s r ∧ s r < (k : Int) := by
    intro r hr
    have h1 := hA.rng r hr
    have h2 := (hA.own r hr (by simp)).1
    have h3 := (hY _).1 (hM.edge r (by omega) h2).2
    exact ⟨by omega, h2, h3.1, h3.2⟩
  refine ⟨crowd_rise _ _, fun z hz => ?_, A, hA.nodup, ?_, fun x q he hxK => ?_⟩
  · obtain ⟨i, hi, _, rfl⟩ := mem_crowd.1 hz
    omega
  · have hnd : ((k : Int) :: A.map (fun a => s a.toNat)).Nodup := by
      refine List.nodup_cons.2 ⟨fun hm => ?_, ?_⟩
      · obtain ⟨a, ha, e⟩ := List.mem_map.1 hm
        have h1 := hA.rng a ha
        have h2 := hs a.toNat (by rw [Int.toNat_of_nonneg h1.1]; exact ha)
        omega
      · rw [List.nodup_iff_pairwise_ne, List.pairwise_map]
        refine List.Pairwise.imp_of_mem ?_ hA.nodup
        intro a b ha hb hne e
        have h1 := hA.rng a ha
        have h2 := hA.rng b hb
        have h3 := hs a.toNat (by rw [Int.toNat_of_nonneg h1.1]; exact ha)
        have := hM.inj a.toNat b.toNat (by omega) (by omega) h3.2.1 e
        omega
    have := subLen _ (P.crowd (P.inTo s A k R) n) hnd (fun z hz => by
      rcases List.mem_cons.1 hz with rfl | hz
      · exact mem_crowd.2 ⟨k, hk, mem_inTo.2 (.inl rfl), rfl⟩
      · obtain ⟨a, ha, rfl⟩ := List.mem_map.1 hz
        have h1 := hA.rng a ha
        have h2 := hs a.toNat (by rw [Int.toNat_of_nonneg h1.1]; exact ha)
        exact mem_crowd.2 ⟨(s a.toNat).toNat, by omega, mem_inTo.2 (.inr ⟨a.toNat, h2.1, by rw [Int.toNat_of_nonneg h1.1]; exact ha, by omega⟩), by omega⟩)
    simp at this
    omega
  · obtain ⟨i, hi, h1, rfl⟩ := mem_crowd.1 hxK
    rcases mem_inTo.1 h1 with h2 | ⟨r, h2, h3, h4⟩
    · exact hx q (by rw [← h2]; exact he)
    · exact (hA.own r h3 (by simp)).2 q (by rw [← h4]; exact he)

/-- Where some lack, no matching has all left ones. -/
theorem lacks_max {E : List Edge} {n : Nat} {K : List Int} {m : List Edge} (hE : ∀ x ∈ E, 0 ≤ x.1 ∧ x.1 < (n : Int)) (hK : Lacks E n K) (hm : IsM E m) : m.length < n := by
  obtain ⟨A, hA1, hA2, hA3⟩ := hK.few
  have hle : m.length ≤ n := by
    have hnd : (m.map (fun z => z.1)).Nodup := by
      rw [List.nodup_iff_pairwise_ne, List.pairwise_map]
      exact hm.2.imp (fun h => h.1)
    have := pigeon n _ hnd (fun x hx => by
      obtain ⟨z, hz, rfl⟩ := List.mem_map.1 hx
      exact hE z (hm.1 z hz))
    simpa using this
  rcases Nat.lt_or_ge m.length n with h | h
  · exact h
  · exfalso
    have hmn : m.length = n := by omega
    have hnd : (m.map (fun z => z.1)).Nodup := by
      rw [List.nodup_iff_pairwise_ne, List.pairwise_map]
      exact hm.2.imp (fun h => h.1)
    -- every left one stands in m
    have hall : ∀ y : Int, 0 ≤ y → y < (n : Int) → y ∈ m.map (fun z => z.1) := by
      intro y h0 h1
      by_cases e : y ∈ m.map (fun z => z.1)
      · exact e
      · exfalso
        have := pigeon n (y :: m.map (fun z => z.1)) (List.nodup_cons.2 ⟨e, hnd⟩) (fun x hx => by
          rcases List.mem_cons.1 hx with rfl | hx
          · exact ⟨h0, h1⟩
          · obtain ⟨z, hz, rfl⟩ := List.mem_map.1 hx
            exact hE z (hm.1 z hz))
        simp at this
        omega
    have hf1 : K.length ≤ ((m.filter (fun z => decide (z.1 ∈ K))).map (fun z => z.1)).length := by
      refine subLen K _ (hK.rise.imp (fun h => by omega)) (fun y hy => ?_)
      have hr := hK.rng y hy
      obtain ⟨z, hz, rfl⟩ := List.mem_map.1 (hall y hr.1 hr.2)
      exact List.mem_map.2 ⟨z, List.mem_filter.2 ⟨hz, by simpa using hy⟩, rfl⟩
    have hf2 : ((m.filter (fun z => decide (z.1 ∈ K))).map (fun z => z.2)).length ≤ A.length := by
      refine subLen _ A ?_ (fun q hq => ?_)
      · rw [List.nodup_iff_pairwise_ne, List.pairwise_map]
        exact (hm.2.filter _).imp (fun h => h.2)
      · obtain ⟨z, hz, rfl⟩ := List.mem_map.1 hq
        obtain ⟨h1, h2⟩ := List.mem_filter.1 hz
        exact hA3 z.1 z.2 (hm.1 z h1) (by simpa using h2)
    simp at hf1 hf2
    omega

end Go.Proofs.Ytcifdkggigfnlab
