/- Plain facts on who serves whom, and on the order of categories. -/
import Derived.Test.YtnadhpemmehedaaShipI
namespace Go.Proofs.Ytnadhpemmehedaa
set_option linter.unusedSimpArgs false
set_option linter.unusedVariables false

theorem war_mono {T : Tab} {m a b : Nat} (h : P.war T m a b = true) : ∀ k, P.war T (m + k) a b = true := by
  intro k
  induction k with
  | zero => exact h
  | succ k ih =>
    rw [← Nat.add_assoc, P.war, P.step, ih]
    rfl
theorem war_le {T : Tab} {m n a b : Nat} (hmn : m ≤ n) (h : P.war T m a b = true) : P.war T n a b = true := by
  have := war_mono h (n - m)
  rwa [show m + (n - m) = n by omega] at this

theorem step_or {T : Tab} {m a b : Nat} : P.step T m a b = true ↔ T a b = true ∨ (T a m = true ∧ T m b = true) := by
  unfold P.step
  cases T a b <;> cases T a m <;> cases T m b <;> simp

theorem war_trans {T : Tab} : ∀ (m : Nat) {a b c : Nat}, c < m → P.war T m a c = true → P.war T m c b = true → P.war T m a b = true := by
  intro m
  induction m with
  | zero => intro a b c h; omega
  | succ m ih =>
    intro a b c hc h1 h2
    rw [P.war] at *
    rw [step_or] at *
    by_cases e : c = m
    · subst e
      have k1 : P.war T c a c = true := by rcases h1 with h | ⟨h, _⟩ <;> exact h
      have k2 : P.war T c c b = true := by rcases h2 with h | ⟨_, h⟩ <;> exact h
      exact .inr ⟨k1, k2⟩
    · have hc' : c < m := by omega
      rcases h1 with h1 | ⟨h1, h1'⟩ <;> rcases h2 with h2 | ⟨h2, h2'⟩
      · exact .inl (ih hc' h1 h2)
      · exact .inr ⟨ih hc' h1 h2, h2'⟩
      · exact .inr ⟨h1, ih hc' h1' h2⟩
      · exact .inr ⟨h1, h2'⟩

theorem serves_refl {l : List Cat} {a : Nat} (ha : a < l.length) (m : Nat) : P.war (P.base l) m a a = true :=
  war_le (Nat.zero_le m) (by show P.base l a a = true; simp [P.base, ha])

/-- The last step: who serves b, and is not b, serves one of b's Higher. -/
theorem serves_last {l : List Cat} (hh : ∀ c ∈ l, ∀ h ∈ c.2, 0 ≤ h ∧ h < l.length) : ∀ (m : Nat) {a b : Nat}, m ≤ l.length → a < l.length → b < l.length → P.war (P.base l) m a b = true →
    a = b ∨ ∃ h, h < l.length ∧ P.edge l h b = true ∧ P.war (P.base l) l.length a h = true := by
  intro m
  induction m with
  | zero =>
    intro a b _ ha hb h
    have h : P.base l a b = true := h
    unfold P.base at h
    simp [hb] at h
    rcases h with h | h
    · exact .inl h
    · exact .inr ⟨a, ha, h, serves_refl ha _⟩
  | succ m ih =>
    intro a b hm ha hb h
    rw [P.war, step_or] at h
    rcases h with h | ⟨h1, h2⟩
    · exact ih (by omega) ha hb h
    · rcases ih (by omega) (by omega : m < l.length) hb h2 with e | ⟨h, k1, k2, k3⟩
      · subst e
        exact ih (by omega) ha hb h1
      · exact .inr ⟨h, k1, k2, war_trans _ (by omega : m < l.length) (war_le (by omega) h1) k3⟩

theorem edge_mem {l : List Cat} {h b : Nat} (hb : b < l.length) (he : P.edge l h b = true) : (h : Int) ∈ (l.getD b (ByteArray.empty, [])).2 := by
  unfold P.edge at he
  rw [List.any_eq_true] at he
  obtain ⟨x, hx, e⟩ := he
  simp at e
  rw [← e]
  exact hx

theorem some_iff (p : Nat → Bool) (n : Nat) : P.some p n = true ↔ ∃ i, i < n ∧ p i = true := by
  unfold P.some
  rw [List.any_eq_true]
  constructor
  · rintro ⟨x, hx, h⟩; exact ⟨x, by simpa using hx, h⟩
  · rintro ⟨x, hx, h⟩; exact ⟨x, by simpa using hx, h⟩

theorem circle_iff {l : List Cat} : P.circle l = true ↔ ∃ i, i < l.length ∧ ∃ h ∈ (l.getD i (ByteArray.empty, [])).2, P.war (P.base l) l.length i h.toNat = true := by
  unfold P.circle
  rw [some_iff]
  constructor
  · rintro ⟨i, hi, h⟩
    unfold P.circAt at h
    rw [some_iff] at h
    obtain ⟨j, hj, h⟩ := h
    refine ⟨i, hi, (l.getD i (ByteArray.empty, [])).2.getD j 0, ?_, h⟩
    generalize (l.getD i (ByteArray.empty, [])).2 = hs at *
    rw [List.getD_eq_getElem?_getD, List.getElem?_eq_getElem hj]
    simp
  · rintro ⟨i, hi, h, hm, hw⟩
    refine ⟨i, hi, ?_⟩
    unfold P.circAt
    rw [some_iff]
    generalize (l.getD i (ByteArray.empty, [])).2 = hs at *
    obtain ⟨j, hj, e⟩ := List.getElem_of_mem hm
    refine ⟨j, hj, ?_⟩
    rw [List.getD_eq_getElem?_getD, List.getElem?_eq_getElem hj, Option.getD_some, e]
    exact hw

/-- No two serve one another. -/
theorem serves_anti {l : List Cat} (hh : ∀ c ∈ l, ∀ h ∈ c.2, 0 ≤ h ∧ h < l.length) (hc : P.circle l = false) {a b : Nat} (ha : a < l.length) (hb : b < l.length)
    (h1 : P.war (P.base l) l.length a b = true) (h2 : P.war (P.base l) l.length b a = true) : a = b := by
  rcases serves_last hh _ (Nat.le_refl _) ha hb h1 with e | ⟨h, k1, k2, k3⟩
  · exact e
  · exfalso
    have : P.circle l = true := circle_iff.2 ⟨b, hb, h, edge_mem hb k2, by simpa using war_trans _ ha h2 k3⟩
    rw [hc] at this
    cases this

/-! The order. -/

theorem sub_len : ∀ (A L : List Int), A.Nodup → (∀ x ∈ A, x ∈ L) → A.length ≤ L.length := by
  intro A
  induction A with
  | nil => intro L _ _; simp
  | cons a A ih =>
    intro L hn hs
    have ha := hs a (by simp)
    have h2 := List.nodup_cons.1 hn
    have := ih (L.erase a) h2.2 (fun x hx => by
      have hx2 := hs x (by simp [hx])
      have hne : x ≠ a := fun e => h2.1 (e ▸ hx)
      exact (List.mem_erase_of_ne hne).2 hx2)
    rw [List.length_erase_of_mem ha] at this
    have := List.length_pos_of_mem ha
    simp
    omega

structure P.Ordered (T : Tab) (n : Nat) (l : List Int) : Prop where
  nodup : l.Nodup
  bound : ∀ x ∈ l, 0 ≤ x ∧ x < (n : Int)
  apart : l.Pairwise (fun x y => T y.toNat x.toNat = false)
  shut : ∀ x ∈ l, ∀ o : Nat, o < n → ¬ (o : Int) ∈ l → T o x.toNat = false

theorem Ordered.nil (T : Tab) (n : Nat) : P.Ordered T n [] := ⟨List.nodup_nil, by simp, by simp, by simp⟩
theorem Ordered.snoc {T : Tab} {n : Nat} {l : List Int} {k : Nat} (h : P.Ordered T n l) (hk : k < n) (hm : P.may T n l k = true) : P.Ordered T n (l ++ [(k : Int)]) := by
  have hnew := may_new hm
  have hbar : ∀ o, o < n → o ≠ k → ¬ (o : Int) ∈ l → T o k = false := by
    intro o ho hne hno
    cases ht : T o k with
    | false => rfl
    | true =>
      exfalso
      have h1 : P.some (P.bars T l k) n = true := (some_iff _ _).2 ⟨o, ho, by
        have h2 : P.hasInt l o = false := by
          cases h3 : P.hasInt l o with
          | false => rfl
          | true => exact absurd ((hasInt_mem l o).1 h3) hno
        simp [P.bars, hne, h2, ht]⟩
      simp [P.may, h1] at hm
  refine ⟨?_, ?_, ?_, ?_⟩
  · exact List.nodup_append.2 ⟨h.nodup, by simp, by intro x hx y hy; simp at hy; subst hy; intro e; exact hnew (e ▸ hx)⟩
  · intro x hx
    rcases List.mem_append.1 hx with hx | hx
    · exact h.bound x hx
    · simp at hx; subst hx; omega
  · rw [List.pairwise_append]
    refine ⟨h.apart, by simp, fun x hx y hy => ?_⟩
    simp at hy
    subst hy
    exact h.shut x hx k hk hnew
  · intro x hx o ho hno
    rcases List.mem_append.1 hx with hx | hx
    · exact h.shut x hx o ho (fun hm => hno (by simp [hm]))
    · simp at hx
      subst hx
      exact hbar o ho (fun e => hno (by simp [e])) (fun hm => hno (by simp [hm]))

theorem order_ends {T : Tab} {n : Nat} : ∀ (f : Nat) (l : List Int), P.Ordered T n l → n ≤ l.length + f → P.Ordered T n (P.order T n f l) ∧ ¬ P.least (P.may T n (P.order T n f l)) n < n := by
  intro f
  induction f with
  | zero =>
    intro l h hf
    refine ⟨h, fun hlt => ?_⟩
    have hm := least_yes hlt
    have := pigeon n _ (Ordered.snoc h hlt hm).nodup (Ordered.snoc h hlt hm).bound
    have e : P.order T n 0 l = l := rfl
    simp at this
    omega
  | succ f ih =>
    intro l h hf
    by_cases hlt : P.least (P.may T n l) n < n
    · rw [P.order, if_pos hlt]
      exact ih _ (Ordered.snoc h hlt (least_yes hlt)) (by simp; omega)
    · rw [P.order, if_neg hlt]
      exact ⟨h, hlt⟩

/-- As long as one waits, one may stand. -/
theorem may_some {T : Tab} {n : Nat} {l : List Int} (hre : ∀ a, a < n → T a a = true) (htr : ∀ a b c, a < n → b < n → c < n → T a b = true → T b c = true → T a c = true) (han : ∀ a b, a < n → b < n → T a b = true → T b a = true → a = b)
    {i : Nat} (hi : i < n) (hw : ¬ (i : Int) ∈ l) : ∃ c, c < n ∧ P.may T n l c = true := by
  -- go from one to one that serves it and waits: the number of those who serve it falls
  have key : ∀ (m : Nat) (c : Nat), c < n → ¬ (c : Int) ∈ l → (List.range n).countP (fun o => T o c) ≤ m → ∃ c, c < n ∧ P.may T n l c = true := by
    intro m
    induction m with
    | zero =>
      intro c hc hn hm
      refine ⟨c, hc, ?_⟩
      have h0 : ∀ o, o < n → T o c = false := by
        intro o ho
        have := List.countP_eq_zero.1 (Nat.le_zero.1 hm) o (by simpa using ho)
        simpa using this
      have h1 : P.hasInt l c = false := by cases h : P.hasInt l c with | false => rfl | true => exact absurd ((hasInt_mem l c).1 h) hn
      have h2 : P.some (P.bars T l c) n = false := by
        cases h : P.some (P.bars T l c) n with
        | false => rfl
        | true =>
          obtain ⟨o, ho, hb⟩ := (some_iff _ _).1 h
          simp [P.bars, h0 o ho] at hb
      simp [P.may, h1, h2]
    | succ m ih =>
      intro c hc hn hm
      have h1 : P.hasInt l c = false := by cases h : P.hasInt l c with | false => rfl | true => exact absurd ((hasInt_mem l c).1 h) hn
      cases h2 : P.some (P.bars T l c) n with
      | false => exact ⟨c, hc, by simp [P.may, h1, h2]⟩
      | true =>
        obtain ⟨o, ho, hb⟩ := (some_iff _ _).1 h2
        simp [P.bars] at hb
        obtain ⟨hne, hno, hT⟩ := hb
        refine ih o ho (fun hm => by have := (hasInt_mem l o).2 hm; rw [hno] at this; cases this) ?_
        have hself := hre c hc
        have hsub : (List.range n).countP (fun x => T x o) < (List.range n).countP (fun x => T x c) := by
          have hle : ∀ (L : List Nat), (∀ x ∈ L, x < n) → L.countP (fun x => T x o) ≤ L.countP (fun x => T x c) ∧ (c ∈ L → L.countP (fun x => T x o) < L.countP (fun x => T x c)) := by
            intro L
            induction L with
            | nil => intro _; simp
            | cons x L ih2 =>
              intro hb
              obtain ⟨i1, i2⟩ := ih2 (fun y hy => hb y (by simp [hy]))
              have hx := hb x (by simp)
              have himp : T x o = true → T x c = true := fun h => htr x o c hx ho hc h hT
              rw [List.countP_cons, List.countP_cons]
              constructor
              · cases hxo : T x o
                · simp; omega
                · simp [himp hxo]; omega
              · intro hmem
                rcases List.mem_cons.1 hmem with e | hmem
                · subst e
                  have hco : T c o = false := by
                    cases hco : T c o with
                    | false => rfl
                    | true => exact absurd (han o c ho hc hT hco) hne
                  simp [hco, hself]
                  omega
                · have := i2 hmem
                  cases hxo : T x o
                  · simp; omega
                  · simp [himp hxo]; omega
          exact (hle (List.range n) (fun x hx => by simpa using hx)).2 (by simpa using hc)
        omega
  exact key _ i hi hw (Nat.le_refl _)

theorem order_all {T : Tab} {n : Nat} (hre : ∀ a, a < n → T a a = true) (htr : ∀ a b c, a < n → b < n → c < n → T a b = true → T b c = true → T a c = true) (han : ∀ a b, a < n → b < n → T a b = true → T b a = true → a = b) :
    (P.order T n n []).length = n ∧ P.Ordered T n (P.order T n n []) := by
  obtain ⟨h1, h2⟩ := order_ends n [] (Ordered.nil T n) (by simp)
  refine ⟨?_, h1⟩
  have hall : ∀ i, i < n → (i : Int) ∈ P.order T n n [] := by
    intro i hi
    apply Classical.byContradiction
    intro hw
    obtain ⟨c, hc, hm⟩ := may_some hre htr han hi hw
    apply h2
    have := least_le (P.may T n (P.order T n n [])) n
    rcases Nat.lt_or_ge (P.least (P.may T n (P.order T n n [])) n) n with hlt | hge
    · exact hlt
    · exfalso
      have e : P.least (P.may T n (P.order T n n [])) n = n := by omega
      unfold P.least at e
      have e2 : (List.range n).findIdx (P.may T n (P.order T n n [])) = (List.range n).length := by simpa using e
      have := List.findIdx_eq_length.1 e2 c (by simpa using hc)
      rw [hm] at this
      cases this
  have h3 := pigeon n _ h1.nodup h1.bound
  have h4 := sub_len ((List.range n).map fun i : Nat => (i : Int)) (P.order T n n []) (by
    rw [List.nodup_iff_pairwise_ne, List.pairwise_map]
    exact List.Pairwise.imp (fun h e => h (by omega)) (List.nodup_iff_pairwise_ne.1 List.nodup_range)) (fun x hx => by
    rw [List.mem_map] at hx
    obtain ⟨i, hi, rfl⟩ := hx
    exact hall i (by simpa using hi))
  simp at h4
  omega

/-- What a ship that is right gives. -/
theorem ship_facts {legs souls : Int} {cs : List Cat} {bs : List Cab} (h : P.shipE legs souls cs bs = 0) :
    let T := P.war (P.base cs) cs.length
    1 ≤ cs.length ∧ cs.length ≤ 5 ∧ (∀ c ∈ cs, ∀ h ∈ c.2, 0 ≤ h ∧ h < cs.length) ∧ (∀ a, a < cs.length → T a a = true) ∧ (∀ a b c, a < cs.length → b < cs.length → c < cs.length → T a b = true → T b c = true → T a c = true) ∧
    (∀ a b, a < cs.length → b < cs.length → T a b = true → T b a = true → a = b) ∧ P.orderL legs souls cs bs = P.order T cs.length cs.length [] := by
  obtain ⟨h1, h2, h3, h4, h5⟩ := ship_ok h
  have hh : ∀ c ∈ cs, ∀ h ∈ c.2, 0 ≤ h ∧ h < cs.length := fun c hc h hx => by have := high_ok (h3 c hc) h hx; omega
  exact ⟨h1, h2, hh, fun a ha => serves_refl ha _, fun a b c _ hb _ k1 k2 => war_trans _ hb k1 k2, fun a b ha hb k1 k2 => serves_anti hh h4 ha hb k1 k2, by rw [P.orderL, if_pos h]⟩

end Go.Proofs.Ytnadhpemmehedaa
