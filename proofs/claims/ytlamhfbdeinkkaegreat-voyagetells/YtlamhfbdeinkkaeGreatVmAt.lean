/- Matchings that go on from what is settled: mathematics. -/
import Derived.Test.YtlamhfbdeinkkaeGreatStSt
namespace Go.Proofs.YtlamhfbdeinkkaeGreat.St
set_option linter.unusedSimpArgs false
set_option linter.unusedVariables false

/-- Are all left ones below n matched by one of the matchings? -/
def P.full (n : Nat) (l : List (Int × Int)) : Prop := ∃ m, Ma.IsM l m ∧ m.length = n
/-- g gives each left one below n a right one of its own. -/
def P.Asg (n : Nat) (E : List (Int × Int)) (g : Nat → Int) : Prop := (∀ i, i < n → ((i : Int), g i) ∈ E) ∧ ∀ i j, i < n → j < n → g i = g j → i = j
theorem isM_fun {l m : List (Int × Int)} (h : Ma.IsM l m) {a b : Int × Int} (ha : a ∈ m) (hb : b ∈ m) (hne : a ≠ b) : a.1 ≠ b.1 ∧ a.2 ≠ b.2 := by
  obtain ⟨i, hi, rfl⟩ := List.getElem_of_mem ha
  obtain ⟨j, hj, rfl⟩ := List.getElem_of_mem hb
  have hp := List.pairwise_iff_getElem.1 h.2
  rcases Nat.lt_trichotomy i j with hlt | rfl | hlt
  · exact hp i j hi hj hlt
  · exact absurd rfl hne
  · have := hp j i hj hi hlt
    exact ⟨Ne.symm this.1, Ne.symm this.2⟩
theorem isM_has {n : Nat} {l m : List (Int × Int)} (hl : ∀ z ∈ l, 0 ≤ z.1 ∧ z.1 < (n : Int)) (h : Ma.IsM l m) (hm : m.length = n) (i : Nat) (hi : i < n) : ∃ c, ((i : Int), c) ∈ m := by
  apply Classical.byContradiction
  intro hno
  have hnd : ((m.map (fun z => z.1)) ++ [(i : Int)]).Nodup := by
    rw [List.nodup_append]
    refine ⟨?_, by simp, fun a ha b hb => ?_⟩
    · rw [List.nodup_iff_pairwise_ne, List.pairwise_map]
      exact List.pairwise_iff_getElem.2 fun i j hi hj hij => (List.pairwise_iff_getElem.1 h.2 i j hi hj hij).1
    · obtain ⟨z, hz, rfl⟩ := List.mem_map.1 ha
      simp at hb
      subst hb
      intro e
      exact hno ⟨z.2, by rw [← e]; exact hz⟩
  have := Ma.pigeon n _ hnd (fun x hx => by
    rcases List.mem_append.1 hx with hx | hx
    · obtain ⟨z, hz, rfl⟩ := List.mem_map.1 hx
      exact hl z (h.1 z hz)
    · simp at hx
      omega)
  simp at this
  omega
theorem full_iff {n : Nat} {l : List (Int × Int)} (hl : ∀ z ∈ l, 0 ≤ z.1 ∧ z.1 < (n : Int)) : P.full n l ↔ ∃ g, P.Asg n l g := by
  constructor
  · rintro ⟨m, hm, hml⟩
    have hc := isM_has hl hm hml
    refine ⟨fun i => if h : i < n then Classical.choose (hc i h) else 0, fun i hi => ?_, fun i j hi hj e => ?_⟩
    · show ((i : Int), (if h : i < n then Classical.choose (hc i h) else 0)) ∈ l
      rw [dif_pos hi]
      exact hm.1 _ (Classical.choose_spec (hc i hi))
    · have e : (if h : i < n then Classical.choose (hc i h) else 0) = (if h : j < n then Classical.choose (hc j h) else 0) := e
      rw [dif_pos hi, dif_pos hj] at e
      have h1 := Classical.choose_spec (hc i hi)
      have h2 := Classical.choose_spec (hc j hj)
      apply Classical.byContradiction
      intro hij
      exact (isM_fun hm h1 h2 (fun h => hij (by have := congrArg (·.1) h; simp at this; omega))).2 e
  · rintro ⟨g, h1, h2⟩
    refine ⟨(List.range n).map fun (i : Nat) => ((i : Int), g i), ⟨fun z hz => ?_, ?_⟩, by simp⟩
    · obtain ⟨i, hi, rfl⟩ := List.mem_map.1 hz
      exact h1 i (List.mem_range.1 hi)
    · rw [List.pairwise_map]
      refine List.pairwise_iff_getElem.2 fun i j hi hj hij => ?_
      simp only [List.length_range] at hi hj
      simp only [List.getElem_range]
      exact ⟨by omega, fun e => by have := h2 i j hi hj e; omega⟩

/-- The edges that are left, where the left ones below J have what f says. -/
def P.cut (E : List (Int × Int)) (J : Nat) (f : Nat → Int) : List (Int × Int) := E.filter fun e => decide ((J : Int) ≤ e.1) || decide (e.2 = f e.1.toNat)
def P.gos (x y : Int × Int) : Bool := decide (y.1 = x.1) && !(decide (y.1 = x.1) && decide (y.2 = x.2))
def P.only (l : List (Int × Int)) (x : Int × Int) : List (Int × Int) := l.filter fun y => !P.gos x y
def P.ext (n : Nat) (E : List (Int × Int)) (J : Nat) (f : Nat → Int) : Prop := ∃ g, P.Asg n E g ∧ ∀ i, i < J → g i = f i
def P.up (f : Nat → Int) (J : Nat) (c : Int) : Nat → Int := fun i => if i = J then c else f i
theorem cut_sub {E : List (Int × Int)} {J : Nat} {f : Nat → Int} {z : Int × Int} (h : z ∈ P.cut E J f) : z ∈ E := (List.mem_filter.1 h).1
theorem full_cut {n J : Nat} {E : List (Int × Int)} {f : Nat → Int} (hE : ∀ z ∈ E, 0 ≤ z.1 ∧ z.1 < (n : Int)) (hJ : J ≤ n) : P.full n (P.cut E J f) ↔ P.ext n E J f := by
  rw [full_iff (fun z hz => hE z (cut_sub hz))]
  constructor
  · rintro ⟨g, h1, h2⟩
    refine ⟨g, ⟨fun i hi => cut_sub (h1 i hi), h2⟩, fun i hi => ?_⟩
    have := (List.mem_filter.1 (h1 i (by omega))).2
    simp only [Bool.or_eq_true, decide_eq_true_iff, Int.toNat_natCast] at this
    omega
  · rintro ⟨g, ⟨h1, h2⟩, h3⟩
    refine ⟨g, fun i hi => List.mem_filter.2 ⟨h1 i hi, ?_⟩, h2⟩
    simp only [Bool.or_eq_true, decide_eq_true_iff, Int.toNat_natCast]
    by_cases hiJ : i < J
    · exact .inr (h3 i hiJ)
    · exact .inl (by omega)
theorem only_cut {E : List (Int × Int)} {J : Nat} {f : Nat → Int} {c : Int} (hE : ∀ z ∈ E, 0 ≤ z.1) : P.only (P.cut E J f) ((J : Int), c) = P.cut E (J + 1) (P.up f J c) := by
  rw [P.only, P.cut, P.cut, List.filter_filter]
  refine List.filter_congr fun e he => ?_
  have h0 := hE e he
  obtain ⟨a, b⟩ := e
  simp only [P.gos, P.up] at h0 ⊢
  obtain ⟨k, rfl⟩ := Int.eq_ofNat_of_zero_le h0
  simp only [Int.toNat_natCast]
  rw [Bool.eq_iff_iff]
  simp only [Bool.and_eq_true, Bool.not_eq_true', Bool.and_eq_false_iff, Bool.or_eq_true, decide_eq_true_iff, decide_eq_false_iff_not, Bool.not_eq_false', Bool.not_eq_true]
  by_cases hk : k = J
  · subst hk
    simp
    omega
  · rw [if_neg hk]
    omega
theorem only_miss {n J i : Nat} {E : List (Int × Int)} {f : Nat → Int} {c : Int} (hE : ∀ z ∈ E, 0 ≤ z.1 ∧ z.1 < (n : Int)) (hi : i < J) (hn : i < n) (hc : c ≠ f i) : ¬ P.full n (P.only (P.cut E J f) ((i : Int), c)) := by
  intro h
  obtain ⟨g, h1, _⟩ := (full_iff (fun z hz => hE z (cut_sub (List.mem_filter.1 hz).1))).1 h
  obtain ⟨h2, h3⟩ := List.mem_filter.1 (h1 i hn)
  have h4 := (List.mem_filter.1 h2).2
  simp only [P.gos, Bool.or_eq_true, decide_eq_true_iff, Int.toNat_natCast, decide_true, Bool.true_and, Bool.not_not] at h3 h4
  omega
theorem ext_congr {n J : Nat} {E : List (Int × Int)} {f f' : Nat → Int} (h : ∀ i, i < J → f i = f' i) : P.ext n E J f ↔ P.ext n E J f' := by
  constructor
  · rintro ⟨g, h1, h2⟩
    exact ⟨g, h1, fun i hi => (h2 i hi).trans (h i hi)⟩
  · rintro ⟨g, h1, h2⟩
    exact ⟨g, h1, fun i hi => (h2 i hi).trans (h i hi).symm⟩
theorem ext_mono {n J K : Nat} {E : List (Int × Int)} {f : Nat → Int} (h : P.ext n E K f) (hJ : J ≤ K) : P.ext n E J f := by
  obtain ⟨g, h1, h2⟩ := h
  exact ⟨g, h1, fun i hi => h2 i (by omega)⟩

/-- f is, one by one, the least with which all others can still be matched. -/
def P.Lex (n : Nat) (E : List (Int × Int)) (f : Nat → Int) (J : Nat) : Prop :=
  ∀ i, i < J → ((i : Int), f i) ∈ E ∧ P.ext n E (i + 1) f ∧ ∀ c, ((i : Int), c) ∈ E → c < f i → ¬ P.ext n E (i + 1) (P.up f i c)
theorem lex_congr {n J : Nat} {E : List (Int × Int)} {f f' : Nat → Int} (h : ∀ i, i < J → f i = f' i) (hL : P.Lex n E f J) : P.Lex n E f' J := fun i hi => by
  obtain ⟨h1, h2, h3⟩ := hL i hi
  refine ⟨by rw [← h i hi]; exact h1, (ext_congr (fun j hj => h j (by omega))).1 h2, fun c hc hlt => ?_⟩
  rw [← h i hi] at hlt
  refine fun he => h3 c hc hlt ((ext_congr fun j hj => ?_).2 he)
  rw [P.up, P.up]
  split
  · rfl
  · exact h j (by omega)
theorem lex_next {n J : Nat} {E : List (Int × Int)} {f : Nat → Int} {c : Int} (hL : P.Lex n E f J) (hc : ((J : Int), c) ∈ E) (he : P.ext n E (J + 1) (P.up f J c)) (hm : ∀ d, ((J : Int), d) ∈ E → d < c → ¬ P.ext n E (J + 1) (P.up f J d)) : P.Lex n E (P.up f J c) (J + 1) := by
  intro i hi
  rcases Nat.lt_or_ge i J with hlt | hge
  · exact lex_congr (J := J) (fun j hj => by rw [P.up, if_neg (by omega)]) hL i hlt
  · obtain rfl : i = J := by omega
    have e : P.up f i c i = c := by rw [P.up, if_pos rfl]
    rw [e]
    refine ⟨hc, he, fun d hd hlt hx => hm d hd hlt ((ext_congr fun j hj => ?_).1 hx)⟩
    rw [P.up, P.up, P.up]
    split <;> rfl
/-- Edges in their order. -/
def P.srt (E : List (Int × Int)) : Prop := E.Pairwise fun a b => a.1 < b.1 ∨ (a.1 = b.1 ∧ a.2 < b.2)
/-- What is known of the edges that are left when k edges were asked. -/
structure SetInv (n : Nat) (E : List (Int × Int)) (k J : Nat) (f : Nat → Int) (l : List (Int × Int)) : Prop where
  l : l = P.cut E J f
  Jn : J ≤ n
  ext : P.ext n E J f
  lex : P.Lex n E f J
  done : ∀ i, i < J → ((i : Int), f i) ∈ E.take k
  ahead : ∀ e ∈ E.drop k, (J : Int) ≤ e.1 + 1
  tried : ∀ e ∈ E.take k, e.1 ≤ J ∧ (e.1 = J → ¬ P.ext n E (J + 1) (P.up f J e.2))
theorem SetInv.start {n : Nat} {E : List (Int × Int)} {f : Nat → Int} (hE : ∀ z ∈ E, 0 ≤ z.1 ∧ z.1 < (n : Int)) (hf : P.full n E) : SetInv n E 0 0 f E where
  l := by
    rw [P.cut]
    exact (List.filter_eq_self.2 (fun z hz => by have := (hE z hz).1; simp [this])).symm
  Jn := Nat.zero_le _
  ext := by
    obtain ⟨g, hg⟩ := (full_iff hE).1 hf
    exact ⟨g, hg, fun i hi => absurd hi (Nat.not_lt_zero _)⟩
  lex := fun i hi => absurd hi (Nat.not_lt_zero _)
  done := fun i hi => absurd hi (Nat.not_lt_zero _)
  ahead := fun e he => by
    have := (hE e (List.mem_of_mem_drop he)).1
    omega
  tried := fun e he => by simp at he
theorem SetInv.open {n k J : Nat} {E l : List (Int × Int)} {f : Nat → Int} (h : SetInv n E k J f l) (hJ : J < n) : ∃ c, ((J : Int), c) ∈ E ∧ ¬ ((J : Int), c) ∈ E.take k := by
  obtain ⟨g, h1, h2⟩ := h.ext
  refine ⟨g J, h1.1 J hJ, fun ht => (h.tried _ ht).2 rfl ⟨g, h1, fun i hi => ?_⟩⟩
  rw [P.up]
  split
  · next e => rw [e]
  · exact h2 i (by omega)
theorem srt_take {E : List (Int × Int)} {k : Nat} {z : Int × Int} (hs : P.srt E) (hz : E[k]? = some z) : (∀ e ∈ E.take k, e.1 < z.1 ∨ (e.1 = z.1 ∧ e.2 < z.2)) ∧ (∀ e ∈ E.drop (k + 1), z.1 < e.1 ∨ (z.1 = e.1 ∧ z.2 < e.2)) ∧ E.take (k + 1) = E.take k ++ [z] ∧ E.drop k = z :: E.drop (k + 1) := by
  obtain ⟨hk, e⟩ := List.getElem?_eq_some_iff.1 hz
  have h1 : E.take (k + 1) = E.take k ++ [z] := by rw [List.take_succ_eq_append_getElem hk, e]
  have h2 : E.drop k = z :: E.drop (k + 1) := by rw [List.drop_eq_getElem_cons hk, e]
  have hs' : (E.take k ++ z :: E.drop (k + 1)).Pairwise fun a b => a.1 < b.1 ∨ (a.1 = b.1 ∧ a.2 < b.2) := by rw [← h2, List.take_append_drop]; exact hs
  obtain ⟨_, p2, p3⟩ := List.pairwise_append.1 hs'
  exact ⟨fun e he => p3 e he z (by simp), (List.pairwise_cons.1 p2).1, h1, h2⟩
theorem SetInv.step {n k J : Nat} {E l : List (Int × Int)} {f : Nat → Int} {z : Int × Int} (hE : ∀ z ∈ E, 0 ≤ z.1 ∧ z.1 < (n : Int)) (hs : P.srt E) (h : SetInv n E k J f l) (hz : E[k]? = some z) :
    (P.full n (P.only l z) → ∃ J' f', SetInv n E (k + 1) J' f' (P.only l z)) ∧ (¬ P.full n (P.only l z) → SetInv n E (k + 1) J f l) := by
  obtain ⟨t1, t2, t3, t4⟩ := srt_take hs hz
  have hzE : z ∈ E := List.mem_of_getElem? hz
  obtain ⟨z0, zn⟩ := hE z hzE
  have hza := h.ahead z (by rw [t4]; simp)
  obtain ⟨zl, zc⟩ := z
  obtain ⟨i, rfl⟩ := Int.eq_ofNat_of_zero_le z0
  have hi : i ≤ J := by
    apply Classical.byContradiction
    intro hlt
    have zn : (i : Int) < n := zn
    obtain ⟨c, hc, hnt⟩ := h.open (by omega)
    rw [← List.take_append_drop k E, t4] at hc
    rcases List.mem_append.1 hc with hc | hc
    · exact hnt hc
    · rcases List.mem_cons.1 hc with e | hc
      · simp only [Prod.mk.injEq] at e
        omega
      · have := t2 _ hc
        simp only at this
        omega
  have hza : (J : Int) ≤ (i : Int) + 1 := hza
  have zn : (i : Int) < n := zn
  rcases Nat.lt_or_ge i J with hlt | hge
  · obtain rfl : J = i + 1 := by omega
    have hd := h.done i (by omega)
    have hne : zc ≠ f i := fun e => by
      have := t1 _ hd
      simp only at this
      omega
    have hno : ¬ P.full n (P.only l ((i : Int), zc)) := by
      rw [h.l]
      exact only_miss hE (by omega) (by omega) hne
    refine ⟨fun hf => absurd hf hno, fun _ => ⟨h.l, h.Jn, h.ext, h.lex, fun j hj => by rw [t3]; exact List.mem_append_left _ (h.done j hj), fun e he => by
      have := t2 e he
      simp only at this
      omega, fun e he => ?_⟩⟩
    rw [t3] at he
    rcases List.mem_append.1 he with he | he
    · exact h.tried e he
    · simp at he
      subst he
      exact ⟨by simp only; omega, fun e => by simp only at e; omega⟩
  · obtain rfl : i = J := by omega
    have hcut : P.only l ((i : Int), zc) = P.cut E (i + 1) (P.up f i zc) := by
      rw [h.l]
      exact only_cut (fun z hz => (hE z hz).1)
    have hin : i < n := by omega
    have hfe : P.full n (P.only l ((i : Int), zc)) ↔ P.ext n E (i + 1) (P.up f i zc) := by
      rw [hcut]
      exact full_cut hE hin
    constructor
    · intro hf
      have hx := hfe.1 hf
      have hup : P.up f i zc i = zc := by rw [P.up, if_pos rfl]
      refine ⟨i + 1, P.up f i zc, hcut, hin, hx, lex_next h.lex hzE hx (fun d hd hlt => ?_), fun j hj => ?_, fun e he => ?_, fun e he => ?_⟩
      · refine (h.tried ((i : Int), d) ?_).2 rfl
        rw [← List.take_append_drop k E, t4] at hd
        rcases List.mem_append.1 hd with hd | hd
        · exact hd
        · rcases List.mem_cons.1 hd with e | hd
          · simp only [Prod.mk.injEq] at e
            omega
          · have := t2 _ hd
            simp only at this
            omega
      · rw [t3]
        rcases Nat.lt_or_ge j i with hji | hji
        · rw [P.up, if_neg (by omega)]
          exact List.mem_append_left _ (h.done j hji)
        · obtain rfl : j = i := by omega
          rw [hup]
          simp
      · have := t2 e he
        simp only at this
        omega
      · rw [t3] at he
        rcases List.mem_append.1 he with he | he
        · have := t1 e he
          simp only at this
          exact ⟨by omega, fun e => by omega⟩
        · simp at he
          subst he
          exact ⟨by simp only; omega, fun e => by simp only at e; omega⟩
    · intro hf
      refine ⟨h.l, h.Jn, h.ext, h.lex, fun j hj => by rw [t3]; exact List.mem_append_left _ (h.done j hj), fun e he => ?_, fun e he => ?_⟩
      · have := t2 e he
        simp only at this
        omega
      · rw [t3] at he
        rcases List.mem_append.1 he with he | he
        · exact h.tried e he
        · simp at he
          subst he
          exact ⟨by simp only; omega, fun _ hx => hf (hfe.2 hx)⟩
theorem srt_eq : ∀ {A B : List (Int × Int)}, P.srt A → P.srt B → (∀ z, z ∈ A ↔ z ∈ B) → A = B
  | [], [], _, _, _ => rfl
  | [], b :: B, _, _, h => absurd ((h b).2 (by simp)) (by simp)
  | a :: A, [], _, _, h => absurd ((h a).1 (by simp)) (by simp)
  | a :: A, b :: B, hA, hB, h => by
    obtain ⟨a1, a2⟩ := List.pairwise_cons.1 hA
    obtain ⟨b1, b2⟩ := List.pairwise_cons.1 hB
    have hab : a = b := by
      apply Classical.byContradiction
      intro hne
      have h1 := (h a).1 (by simp)
      have h2 := (h b).2 (by simp)
      rcases List.mem_cons.1 h1 with e | h1
      · exact hne e
      rcases List.mem_cons.1 h2 with e | h2
      · exact hne e.symm
      have := a1 b h2
      have := b1 a h1
      omega
    subst hab
    rw [srt_eq a2 b2 (fun z => ⟨fun hz => ?_, fun hz => ?_⟩)]
    · rcases List.mem_cons.1 ((h z).1 (by simp [hz])) with e | h1
      · subst e
        have := a1 z hz
        omega
      · exact h1
    · rcases List.mem_cons.1 ((h z).2 (by simp [hz])) with e | h1
      · subst e
        have := b1 z hz
        omega
      · exact h1
/-- When all edges were asked, each left one has one. -/
theorem SetInv.fin {n J : Nat} {E l : List (Int × Int)} {f : Nat → Int} (hE : ∀ z ∈ E, 0 ≤ z.1 ∧ z.1 < (n : Int)) (hs : P.srt E) (h : SetInv n E E.length J f l) : P.Lex n E f n ∧ P.ext n E n f ∧ l = (List.range n).map fun (i : Nat) => ((i : Int), f i) := by
  have hJ : J = n := by
    apply Classical.byContradiction
    intro hne
    have := h.Jn
    obtain ⟨c, hc, hnt⟩ := h.open (by omega)
    rw [List.take_length] at hnt
    exact hnt hc
  have hJ2 := hJ
  subst hJ
  refine ⟨h.lex, h.ext, ?_⟩
  rw [h.l]
  refine srt_eq (List.Pairwise.filter _ hs) ?_ (fun z => ⟨fun hz => ?_, fun hz => ?_⟩)
  · rw [P.srt, List.pairwise_map]
    exact List.pairwise_iff_getElem.2 fun i j hi hj hij => .inl (by simp only [List.getElem_range]; omega)
  · obtain ⟨h1, h2⟩ := List.mem_filter.1 hz
    obtain ⟨z0, zn⟩ := hE z h1
    obtain ⟨a, c⟩ := z
    obtain ⟨i, rfl⟩ := Int.eq_ofNat_of_zero_le z0
    simp only [Bool.or_eq_true, decide_eq_true_iff, Int.toNat_natCast] at h2 zn
    refine List.mem_map.2 ⟨i, List.mem_range.2 (by omega), ?_⟩
    rcases h2 with h2 | h2
    · omega
    · rw [h2]
  · obtain ⟨i, hi, rfl⟩ := List.mem_map.1 hz
    have hi := List.mem_range.1 hi
    refine List.mem_filter.2 ⟨(h.lex i hi).1, ?_⟩
    simp

end Go.Proofs.YtlamhfbdeinkkaeGreat.St
