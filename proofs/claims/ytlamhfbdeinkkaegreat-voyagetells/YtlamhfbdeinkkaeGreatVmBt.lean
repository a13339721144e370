/- Promises that get cabins: mathematics. -/
import Derived.Test.YtlamhfbdeinkkaeGreatVmAt
import Derived.Test.YtlamhfbdeinkkaeGreatChDt
import Derived.Test.YtlamhfbdeinkkaeGreatChGt
namespace Go.Proofs.YtlamhfbdeinkkaeGreat.St
open Go.RowKit Bk
set_option linter.unusedSimpArgs false
set_option linter.unusedVariables false

/-- The open promises get cabins, one by one. -/
def P.giv (f : Nat → Int) : Nat → List Bkg → List Bkg
  | _, [] => []
  | i, b :: t => if P.opn b = true then P.setC b (f i) :: P.giv f (i + 1) t else b :: P.giv f i t
def P.upto (q : Nat) (f : Nat → Int) : Nat → Int := fun i => if i < q then f i else -1
def P.cnt (l : List Bkg) : Nat := (l.filter P.opn).length
theorem opn_setC {b : Bkg} {c : Int} (h : P.opn b = true) : P.opn (P.setC b c) = decide (c < 0) := by
  simp only [P.opn, Bool.and_eq_true, decide_eq_true_iff] at h
  show (decide (b.kind = 2) && decide (b.state ≠ 3) && decide (c < 0)) = _
  simp [h.1.1, h.1.2]
theorem giv_len (f : Nat → Int) (l : List Bkg) : ∀ i, (P.giv f i l).length = l.length := by
  induction l with
  | nil => intro i; rfl
  | cons b t ih => intro i; rw [P.giv]; split <;> simp [ih]
theorem giv_ids (f : Nat → Int) (l : List Bkg) : ∀ i, (P.giv f i l).map (fun b => b.id) = l.map (fun b => b.id) := by
  induction l with
  | nil => intro i; rfl
  | cons b t ih =>
    intro i
    rw [P.giv]
    split
    · rw [List.map_cons, List.map_cons, ih]
      rfl
    · rw [List.map_cons, List.map_cons, ih]
theorem giv_congr {f f' : Nat → Int} (l : List Bkg) : ∀ i, (∀ j, i ≤ j → j < i + P.cnt l → f j = f' j) → P.giv f i l = P.giv f' i l := by
  induction l with
  | nil => intro i _; rfl
  | cons b t ih =>
    intro i h
    rw [P.giv, P.giv]
    split
    · next ho =>
      have hc : P.cnt (b :: t) = P.cnt t + 1 := by rw [P.cnt, List.filter_cons, if_pos ho]; rfl
      rw [h i (Nat.le_refl _) (by omega), ih (i + 1) (fun j h1 h2 => h j (by omega) (by omega))]
    · next ho =>
      have hc : P.cnt (b :: t) = P.cnt t := by rw [P.cnt, List.filter_cons, if_neg ho]; rfl
      rw [ih i (fun j h1 h2 => h j h1 (by omega))]
theorem giv_none {f : Nat → Int} (l : List Bkg) (hl : ∀ b ∈ l, P.opn b = true → b.cabin = -1) : ∀ i, (∀ j, i ≤ j → f j = -1) → P.giv f i l = l := by
  induction l with
  | nil => intro i _; rfl
  | cons b t ih =>
    intro i h
    have iht := ih (fun b hb => hl b (by simp [hb]))
    rw [P.giv]
    split
    · next ho =>
      rw [iht (i + 1) (fun j hj => h j (by omega)), h i (Nat.le_refl _), P.setC, ← hl b (by simp) ho]
    · rw [iht i h]
theorem giv_at (f : Nat → Int) (l : List Bkg) : ∀ (i p : Nat) (b : Bkg), l[p]? = some b → (P.giv f i l)[p]? = some (if P.opn b = true then P.setC b (f (i + P.cnt (l.take p))) else b) := by
  induction l with
  | nil => intro i p b h; simp at h
  | cons x t ih =>
    intro i p b h
    cases p with
    | zero =>
      simp at h
      subst h
      rw [P.giv]
      split <;> simp [P.cnt]
    | succ p =>
      have h' : t[p]? = some b := by simpa using h
      rw [P.giv, List.take_succ_cons]
      split
      · next ho =>
        rw [List.getElem?_cons_succ, ih (i + 1) p b h', show P.cnt (x :: t.take p) = P.cnt (t.take p) + 1 by rw [P.cnt, List.filter_cons, if_pos ho]; rfl, show i + 1 + P.cnt (t.take p) = i + (P.cnt (t.take p) + 1) by omega]
      · next ho =>
        rw [List.getElem?_cons_succ, ih i p b h', show P.cnt (x :: t.take p) = P.cnt (t.take p) by rw [P.cnt, List.filter_cons, if_neg ho]; rfl]
theorem giv_set (f : Nat → Int) (l : List Bkg) : ∀ (i p : Nat) (b : Bkg), l[p]? = some b → P.opn b = true → P.giv (P.upto (i + P.cnt (l.take p) + 1) f) i l = (P.giv (P.upto (i + P.cnt (l.take p)) f) i l).set p (P.setC b (f (i + P.cnt (l.take p)))) := by
  induction l with
  | nil => intro i p b h; simp at h
  | cons x t ih =>
    intro i p b h ho
    cases p with
    | zero =>
      simp at h
      subst h
      have e0 : P.cnt (List.take 0 (x :: t)) = 0 := rfl
      rw [e0, Nat.add_zero, P.giv, P.giv, if_pos ho, if_pos ho, List.set_cons_zero]
      congr 1
      · rw [P.upto, if_pos (by omega), Nat.add_zero]
      · refine giv_congr t (i + 1) (fun j h1 h2 => ?_)
        rw [P.upto, P.upto, if_neg (by omega), if_neg (by omega)]
    | succ p =>
      have h' : t[p]? = some b := by simpa using h
      rw [List.take_succ_cons]
      by_cases hx : P.opn x = true
      · have e : P.cnt (x :: t.take p) = P.cnt (t.take p) + 1 := by rw [P.cnt, List.filter_cons, if_pos hx]; rfl
        rw [e, P.giv, P.giv, if_pos hx, if_pos hx, List.set_cons_succ]
        have := ih (i + 1) p b h' ho
        rw [show i + 1 + P.cnt (t.take p) = i + (P.cnt (t.take p) + 1) by omega] at this
        rw [this]
        congr 1
        rw [P.upto, P.upto, if_pos (by omega), if_pos (by omega)]
      · have e : P.cnt (x :: t.take p) = P.cnt (t.take p) := by rw [P.cnt, List.filter_cons, if_neg hx]; rfl
        rw [e, P.giv, P.giv, if_neg hx, if_neg hx, List.set_cons_succ, ih i p b h' ho]
theorem giv_opn {q : Nat} {f : Nat → Int} (l : List Bkg) : ∀ i, (∀ j, j < q → j < i + P.cnt l → 0 ≤ f j) → (∀ b ∈ l, P.opn b = true → b.cabin = -1) → (P.giv (P.upto q f) i l).filter P.opn = (l.filter P.opn).drop (q - i) := by
  induction l with
  | nil => intro i _ _; simp [P.giv]
  | cons b t ih =>
    intro i h hl
    have hlt : ∀ b ∈ t, P.opn b = true → b.cabin = -1 := fun b hb => hl b (by simp [hb])
    by_cases ho : P.opn b = true
    · have hc : P.cnt (b :: t) = P.cnt t + 1 := by rw [P.cnt, List.filter_cons, if_pos ho]; rfl
      rw [P.giv, if_pos ho, List.filter_cons, List.filter_cons, if_pos ho, opn_setC ho]
      have iht := ih (i + 1) (fun j h1 h2 => h j h1 (by omega)) hlt
      by_cases hq : i < q
      · have : 0 ≤ f i := h i hq (by omega)
        rw [P.upto, if_pos hq, if_neg (by simp; omega), show q - i = (q - (i + 1)) + 1 by omega, List.drop_succ_cons]
        exact iht
      · rw [P.upto, if_neg hq, if_pos (by decide), show q - i = 0 by omega, List.drop_zero]
        have e : q - (i + 1) = 0 := by omega
        rw [e, List.drop_zero] at iht
        congr 1
        rw [P.setC, ← hl b (by simp) ho]
    · have hc : P.cnt (b :: t) = P.cnt t := by rw [P.cnt, List.filter_cons, if_neg ho]; rfl
      rw [P.giv, if_neg ho, List.filter_cons, List.filter_cons, if_neg ho, if_neg ho]
      exact ih i (fun j h1 h2 => h j h1 (by omega)) hlt
theorem opn_live {b : Bkg} (h : P.opn b = true) : P.live b = true ∧ b.cabin < 0 ∧ b.kind = 2 := by
  simp only [P.opn, Bool.and_eq_true, decide_eq_true_iff] at h
  exact ⟨by simpa [P.live] using h.1.2, h.2, h.1.1⟩
theorem giv_any {q : Nat} {f : Nat → Int} {c : Int} (hc : 0 ≤ c) (l : List Bkg) : ∀ i, (P.giv (P.upto q f) i l).any (P.hasC c) = true ↔ l.any (P.hasC c) = true ∨ ∃ j, i ≤ j ∧ j < q ∧ j < i + P.cnt l ∧ f j = c := by
  induction l with
  | nil =>
    intro i
    simp [P.giv, P.cnt]
    omega
  | cons b t ih =>
    intro i
    by_cases ho : P.opn b = true
    · have hcn : P.cnt (b :: t) = P.cnt t + 1 := by rw [P.cnt, List.filter_cons, if_pos ho]; rfl
      obtain ⟨o1, o2, _⟩ := opn_live ho
      have hb : P.hasC c b = false := by
        rw [P.hasC, decide_eq_false (by omega), Bool.and_false]
      have hs : P.hasC c (P.setC b (P.upto q f i)) = decide (P.upto q f i = c) := by
        show (P.live b && decide (P.upto q f i = c)) = _
        rw [o1, Bool.true_and]
      rw [P.giv, if_pos ho, List.any_cons, List.any_cons, hb, Bool.false_or, hs, Bool.or_eq_true, decide_eq_true_iff, ih (i + 1), hcn]
      constructor
      · rintro (h | h | ⟨j, h1, h2, h3, h4⟩)
        · rw [P.upto] at h
          split at h
          · next hq => exact .inr ⟨i, by omega, hq, by omega, h⟩
          · omega
        · exact .inl h
        · exact .inr ⟨j, by omega, h2, by omega, h4⟩
      · rintro (h | ⟨j, h1, h2, h3, h4⟩)
        · exact .inr (.inl h)
        · rcases Nat.lt_or_ge i j with hij | hij
          · exact .inr (.inr ⟨j, by omega, h2, by omega, h4⟩)
          · obtain rfl : j = i := by omega
            exact .inl (by rw [P.upto, if_pos h2]; exact h4)
    · have hcn : P.cnt (b :: t) = P.cnt t := by rw [P.cnt, List.filter_cons, if_neg ho]; rfl
      rw [P.giv, if_neg ho, List.any_cons, List.any_cons, Bool.or_eq_true, Bool.or_eq_true, ih i, hcn]
      constructor
      · rintro (h | h | h)
        · exact .inl (.inl h)
        · exact .inl (.inr h)
        · exact .inr h
      · rintro ((h | h) | h)
        · exact .inl h
        · exact .inr (.inl h)
        · exact .inr (.inr h)

/-- A sailing of which only the cabins of its promises are other than in one that is right. -/
structure Fit (x : Sail) (l : List Bkg) : Prop where
  bk : ∀ b ∈ l, P.bkE x.s b = 0
  tw : P.twice (P.setB x l) = false
  mn : P.many (P.setB x l) = false
  ids : l.map (fun b => b.id) = x.bks.map (fun b => b.id)
theorem Fit.len {x : Sail} {l : List Bkg} (h : Fit x l) : l.length = x.bks.length := by
  have := congrArg List.length h.ids
  simpa using this
theorem Fit.start {x : Sail} (hE : P.SailE x 0) : Fit x x.bks := by
  obtain ⟨_, _, _, hbk, _, ht, hm, _⟩ := sail_ok hE
  exact ⟨hbk, ht, hm, rfl⟩
theorem open_none {s : Vsl} {b : Bkg} (h : P.bkE s b = 0) (ho : P.opn b = true) : b.cabin = -1 := by
  have := (opn_live ho).2.1
  rcases cab_low h with h1 | h1 <;> omega
theorem elig_bk {s : Vsl} {b : Bkg} {c : Nat} (h0 : P.shp s = 0) (h : P.bkE s b = 0) (ho : P.opn b = true) (hc : c < s.bs.length) (he : P.elig s b c = true) : P.bkE s (P.setC b c) = 0 := by
  have h1 := may_elig h0 h ho hc
  rw [he] at h1
  have h2 : P.checkE s (P.wc b c) = 0 := by simpa [P.may] using h1
  rw [P.checkE, if_pos h0] at h2
  exact h2
theorem mine_set {l : List Bkg} {p : Nat} {b g : Bkg} {d : Int} (hk : l[p]? = some b) (h1 : P.hasC d b = false) (h2 : P.hasC d g = false) : P.mine d (l.set p g) = P.mine d l := by
  obtain ⟨e1, e2⟩ := set_split (g := g) hk
  rw [e2]
  conv => rhs; rw [e1]
  rw [P.mine, P.mine, List.filter_append, List.filter_append, List.filter_cons, List.filter_cons, h1, h2]
  rfl
theorem mine_one {l : List Bkg} {p : Nat} {b g : Bkg} {d : Int} (hk : l[p]? = some b) (h1 : P.mine d l = []) (h2 : P.hasC d g = true) : P.mine d (l.set p g) = [P.spn g] := by
  obtain ⟨e1, e2⟩ := set_split (g := g) hk
  rw [mine_nil, List.any_eq_false] at h1
  have ha : (l.take p).filter (P.hasC d) = [] := List.filter_eq_nil_iff.2 (fun z hz => h1 z (List.mem_of_mem_take hz))
  have hb : (l.drop (p + 1)).filter (P.hasC d) = [] := List.filter_eq_nil_iff.2 (fun z hz => h1 z (List.mem_of_mem_drop hz))
  rw [e2, P.mine, List.filter_append, List.filter_cons, if_pos h2, ha, hb]
  rfl
theorem Fit.give {x : Sail} {l : List Bkg} {p : Nat} {b : Bkg} {c : Nat} (h0 : P.shp x.s = 0) (h : Fit x l) (hk : l[p]? = some b) (ho : P.opn b = true) (hc : c < x.s.bs.length) (he : P.elC x.s l b c = true) : Fit x (l.set p (P.setC b c)) := by
  rw [P.elC, Bool.and_eq_true, decide_eq_true_iff] at he
  have hb := h.bk b (List.mem_of_getElem? hk)
  have hb' := elig_bk h0 hb ho hc he.2
  obtain ⟨o1, o2, _⟩ := opn_live ho
  have hlg : P.sails x.s.legs = true := by have := shp_size h0; simp [P.sails]; omega
  refine ⟨fun z hz => ?_, twice_none (fun d hd => ?_), ?_, ?_⟩
  · rcases List.mem_or_eq_of_mem_set hz with h1 | rfl
    · exact h.bk z h1
    · exact hb'
  · show P.addsB x.s.legs (P.mine (d : Nat) (l.set p (P.setC b c))) = true
    have hB : P.addsB x.s.legs (P.mine (d : Nat) l) = true := by
      apply Classical.byContradiction
      intro hh
      have := twice_hit (x := P.setB x l) (c := d) hd (by show P.addsB x.s.legs (P.mine (d : Nat) l) = false; simpa using hh)
      rw [h.tw] at this
      cases this
    by_cases hdc : d = c
    · subst hdc
      rw [mine_one hk he.1 (by show (P.live b && decide ((d : Int) = d)) = true; simp [o1])]
      have : P.addsE x.s.legs [] [P.spn (P.setC b d)] = 0 := adds_of (nil_cal hlg) (fun z hz => by
        simp at hz
        subst hz
        exact (bk_ok hb').1) (by simp) (by simp)
      simpa [P.addsB] using this
    · rw [mine_set hk (by rw [P.hasC, decide_eq_false (by omega), Bool.and_false]) (by show (P.live b && decide ((c : Int) = d)) = false; rw [decide_eq_false (by omega), Bool.and_false])]
      exact hB
  · have := many_setC (x := P.setB x l) (c := (c : Int)) hk
    rw [h.mn] at this
    exact this
  · rw [ids_setC l c p b hk]
    exact h.ids
/-- Whether there is room then: just if all promises that are left can be matched. -/
theorem Fit.room {x : Sail} {l : List Bkg} {r : Int} (h : Fit x l) (hr : P.Room (P.setB x l) r) : r = 0 ↔ P.full (P.pids l).length (P.pedg x.s l 0 l) := by
  rcases hr with ⟨h1, _⟩ | ⟨_, h1, _⟩ | ⟨_, _, c, hc, hr⟩
  · rw [h.tw] at h1
    cases h1
  · rw [h.mn] at h1
    cases h1
  · have hc : Ma.MaxM (P.pedg x.s l 0 l) c := hc
    have hr : r = if c < (P.pids l).length then 9 else 0 := hr
    obtain ⟨m, hm, hml⟩ := hc.1
    have hle := isM_le (pedg_left (x := P.setB x l)) hm
    have hle : m.length ≤ (P.pids l).length := hle
    constructor
    · intro h0
      rw [h0] at hr
      split at hr
      · omega
      · exact ⟨m, hm, by omega⟩
    · rintro ⟨m', hm', hl'⟩
      have := hc.2 m' hm'
      rw [hr, if_neg (by omega)]

/-- The edges that are left where q promises have cabins. -/
abbrev P.gv (q : Nat) (f : Nat → Int) (l : List Bkg) : List Bkg := P.giv (P.upto q f) 0 l
theorem pedg_in' {s : Vsl} {l : List Bkg} {i : Nat} {c : Int} : ((i : Int), c) ∈ P.pedg s l 0 l ↔ ∃ (b : Bkg) (d : Nat), (l.filter P.opn)[i]? = some b ∧ c = d ∧ d < s.bs.length ∧ P.elC s l b d = true := by
  rw [pedg_iff]
  constructor
  · rintro ⟨j, b, d, h1, h2, h3, h4⟩
    simp only [Nat.zero_add, Prod.mk.injEq] at h2
    obtain ⟨h5, rfl⟩ := h2
    obtain rfl : i = j := by omega
    exact ⟨b, d, h1, rfl, h3, h4⟩
  · rintro ⟨b, d, h1, rfl, h3, h4⟩
    exact ⟨i, b, d, h1, by rw [Nat.zero_add], h3, h4⟩
theorem gv_elC {s : Vsl} {l : List Bkg} {q : Nat} {f : Nat → Int} {b : Bkg} {d : Nat} (hq : q ≤ P.cnt l) : P.elC s (P.gv q f l) b d = true ↔ P.elC s l b d = true ∧ ∀ j, j < q → f j ≠ d := by
  have h := giv_any (q := q) (f := f) (c := (d : Int)) (by omega) l 0
  rw [P.elC, P.elC, Bool.and_eq_true, Bool.and_eq_true, decide_eq_true_iff, decide_eq_true_iff, mine_nil, mine_nil]
  constructor
  · rintro ⟨h1, h2⟩
    have h3 : ¬ ((P.gv q f l).any (P.hasC (d : Int)) = true) := by rw [h1]; decide
    rw [h] at h3
    refine ⟨⟨?_, h2⟩, fun j hj e => h3 (.inr ⟨j, by omega, hj, by omega, e⟩)⟩
    cases hx : l.any (P.hasC (d : Int))
    · rfl
    · exact absurd (.inl hx) h3
  · rintro ⟨⟨h1, h2⟩, h3⟩
    refine ⟨?_, h2⟩
    cases hx : (P.gv q f l).any (P.hasC (d : Int))
    · rfl
    · rcases h.1 hx with h4 | ⟨j, _, h4, _, h5⟩
      · rw [h1] at h4
        cases h4
      · exact absurd h5 (h3 j h4)
theorem gv_opn {s : Vsl} {l : List Bkg} {q : Nat} {f : Nat → Int} (hf : ∀ i, i < q → 0 ≤ f i) (hb : ∀ b ∈ l, P.bkE s b = 0) : (P.gv q f l).filter P.opn = (l.filter P.opn).drop q :=
  giv_opn l 0 (fun j h _ => hf j h) (fun b hb' ho => open_none (hb b hb') ho)
theorem gv_pids {s : Vsl} {l : List Bkg} {q : Nat} {f : Nat → Int} (hf : ∀ i, i < q → 0 ≤ f i) (hb : ∀ b ∈ l, P.bkE s b = 0) : (P.pids (P.gv q f l)).length = P.cnt l - q := by
  rw [pids_len, gv_opn hf hb, List.length_drop, P.cnt]
theorem asg_low {s : Vsl} {l : List Bkg} {i : Nat} {c : Int} (h : ((i : Int), c) ∈ P.pedg s l 0 l) : 0 ≤ c ∧ c < s.bs.length ∧ i < P.cnt l := by
  obtain ⟨b, d, h1, rfl, h3, _⟩ := pedg_in'.1 h
  exact ⟨by omega, by omega, (List.getElem?_eq_some_iff.1 h1).1⟩
theorem gv_full {s : Vsl} {l : List Bkg} {q : Nat} {f : Nat → Int} (hb : ∀ b ∈ l, P.bkE s b = 0) (hq : q ≤ P.cnt l) (hf : ∀ i, i < q → ((i : Int), f i) ∈ P.pedg s l 0 l) (hi : ∀ i j, i < q → j < q → f i = f j → i = j) :
    P.full (P.pids (P.gv q f l)).length (P.pedg s (P.gv q f l) 0 (P.gv q f l)) ↔ P.ext (P.cnt l) (P.pedg s l 0 l) q f := by
  have hf0 : ∀ i, i < q → 0 ≤ f i := fun i h => (asg_low (hf i h)).1
  rw [full_iff (fun z hz => by
    have := pedg_mem hz
    rw [pids_len]
    omega), gv_pids hf0 hb]
  have hed : ∀ (i : Nat) (c : Int), ((i : Int), c) ∈ P.pedg s (P.gv q f l) 0 (P.gv q f l) ↔ (((q + i : Nat) : Int), c) ∈ P.pedg s l 0 l ∧ ∀ j, j < q → f j ≠ c := fun i c => by
    rw [pedg_in', pedg_in', gv_opn hf0 hb]
    constructor
    · rintro ⟨b, d, h1, rfl, h3, h4⟩
      obtain ⟨h5, h6⟩ := (gv_elC hq).1 h4
      rw [List.getElem?_drop] at h1
      exact ⟨⟨b, d, h1, rfl, h3, h5⟩, h6⟩
    · rintro ⟨⟨b, d, h1, rfl, h3, h5⟩, h6⟩
      exact ⟨b, d, by rw [List.getElem?_drop]; exact h1, rfl, h3, (gv_elC hq).2 ⟨h5, h6⟩⟩
  constructor
  · rintro ⟨g, h1, h2⟩
    refine ⟨fun i => if i < q then f i else g (i - q), ⟨fun i hin => ?_, fun i j hin hjn e => ?_⟩, fun i hiq => by show (if i < q then f i else g (i - q)) = f i; rw [if_pos hiq]⟩
    · show ((i : Int), (if i < q then f i else g (i - q))) ∈ _
      split
      · next h => exact hf i h
      · next h =>
        have := ((hed (i - q) _).1 (h1 (i - q) (by omega))).1
        rw [show q + (i - q) = i by omega] at this
        exact this
    · have e : (if i < q then f i else g (i - q)) = (if j < q then f j else g (j - q)) := e
      split at e <;> split at e
      · next h h' => exact hi i j h h' e
      · next h h' => exact absurd e (((hed (j - q) _).1 (h1 (j - q) (by omega))).2 i h)
      · next h h' => exact absurd e.symm (((hed (i - q) _).1 (h1 (i - q) (by omega))).2 j h')
      · next h h' => have := h2 (i - q) (j - q) (by omega) (by omega) e; omega
  · rintro ⟨g, ⟨h1, h2⟩, h3⟩
    refine ⟨fun i => g (q + i), fun i hin => (hed i _).2 ⟨h1 (q + i) (by omega), fun j hj e => ?_⟩, fun i j hin hjn e => ?_⟩
    · rw [← h3 j hj] at e
      have := h2 j (q + i) (by omega) (by omega) e
      omega
    · have := h2 (q + i) (q + j) (by omega) (by omega) e
      omega
theorem pedg_srt (s : Vsl) (l m : List Bkg) : ∀ i, P.srt (P.pedg s l i m) := by
  induction m with
  | nil => intro i; exact List.Pairwise.nil
  | cons b t ih =>
    intro i
    rw [P.pedg]
    split
    · refine List.pairwise_append.2 ⟨?_, ih (i + 1), fun x hx y hy => ?_⟩
      · rw [P.edgs, List.pairwise_map]
        refine List.Pairwise.filter _ ?_
        exact List.pairwise_iff_getElem.2 fun a c ha hc hac => .inr ⟨rfl, by simp only [List.getElem_range]; omega⟩
      · have h1 := edgs_mem hx
        have h2 := pedg_mem hy
        exact .inl (by omega)
    · exact ih i
theorem lex_inj {n J : Nat} {E : List (Int × Int)} {f : Nat → Int} (h : P.ext n E J f) (hJ : J ≤ n) : ∀ i j, i < J → j < J → f i = f j → i = j := by
  obtain ⟨g, ⟨_, h2⟩, h3⟩ := h
  intro i j hi hj e
  rw [← h3 i hi, ← h3 j hj] at e
  exact h2 i j (by omega) (by omega) e
theorem ext_edge {n J : Nat} {E : List (Int × Int)} {f : Nat → Int} (h : P.ext n E J f) (hJ : J ≤ n) : ∀ i, i < J → ((i : Int), f i) ∈ E := by
  obtain ⟨g, ⟨h1, _⟩, h3⟩ := h
  intro i hi
  rw [← h3 i hi]
  exact h1 i (by omega)
/-- Where q promises have cabins with which all others can be kept, nothing else is wrong. -/
theorem Fit.gv {x : Sail} (hE : P.SailE x 0) {q : Nat} {f : Nat → Int} (hq : q ≤ P.cnt x.bks) (hx : P.ext (P.cnt x.bks) (P.pedg x.s x.bks 0 x.bks) q f) : Fit x (P.gv q f x.bks) := by
  obtain ⟨_, _, h0, hbk, _⟩ := sail_ok hE
  induction q with
  | zero =>
    have : P.gv 0 f x.bks = x.bks := giv_none x.bks (fun b hb ho => open_none (hbk b hb) ho) 0 (fun j _ => by rw [P.upto, if_neg (by omega)])
    rw [this]
    exact Fit.start hE
  | succ q ih =>
    have hx' := ext_mono hx (Nat.le_succ q)
    have hF := ih (by omega) hx'
    have hed := ext_edge hx hq q (by omega)
    obtain ⟨b, d, h1, h2, h3, h4⟩ := pedg_in'.1 hed
    -- the place of the promise
    have hpl : ∀ (l : List Bkg) (i : Nat), (l.filter P.opn)[i]? = some b → ∃ p, l[p]? = some b ∧ P.cnt (l.take p) = i := by
      intro l
      induction l with
      | nil => intro i h; simp at h
      | cons y t iht =>
        intro i h
        rw [List.filter_cons] at h
        split at h
        · next ho =>
          cases i with
          | zero => exact ⟨0, by simpa using h, rfl⟩
          | succ i =>
            obtain ⟨p, e1, e2⟩ := iht i (by simpa using h)
            exact ⟨p + 1, by simpa using e1, by rw [List.take_succ_cons, P.cnt, List.filter_cons, if_pos ho, List.length_cons]; rw [P.cnt] at e2; omega⟩
        · next ho =>
          obtain ⟨p, e1, e2⟩ := iht i h
          exact ⟨p + 1, by simpa using e1, by rw [List.take_succ_cons, P.cnt, List.filter_cons, if_neg ho]; exact e2⟩
    obtain ⟨p, e1, e2⟩ := hpl x.bks q h1
    have ho : P.opn b = true := by
      have := List.mem_of_getElem? h1
      exact (List.mem_filter.1 this).2
    have hset := giv_set f x.bks 0 p b e1 ho
    rw [Nat.zero_add, e2] at hset
    have hat := giv_at (P.upto q f) x.bks 0 p b e1
    rw [if_pos ho, Nat.zero_add, e2, show P.upto q f q = -1 by rw [P.upto, if_neg (by omega)]] at hat
    have hbb : P.setC b (-1) = b := by
      rw [P.setC, ← open_none (hbk b (List.mem_of_getElem? e1)) ho]
    rw [hbb] at hat
    show Fit x (P.giv (P.upto (q + 1) f) 0 x.bks)
    rw [hset, h2]
    refine Fit.give h0 hF hat ho h3 ((gv_elC (by omega)).2 ⟨h4, fun j hj e => ?_⟩)
    have := lex_inj hx hq j q (by omega) (by omega) (by rw [e, h2])
    omega

/-- The sailing that is closed. -/
def P.clS (x : Sail) (l : List Bkg) : Sail := ⟨x.s, x.L, x.al, x.th, x.B, x.dn, x.day, x.lvs, l, true⟩
theorem closed_right {x : Sail} (hE : P.SailE x 0) {f : Nat → Int} (hx : P.ext (P.cnt x.bks) (P.pedg x.s x.bks 0 x.bks) (P.cnt x.bks) f) : P.SailE (P.clS x (P.gv (P.cnt x.bks) f x.bks)) 0 := by
  obtain ⟨hp, hf, h0, hbk, h16, _⟩ := sail_ok hE
  obtain ⟨_, hI, _⟩ := pre_zero hp
  obtain ⟨hr1, hr2⟩ := bksI_rise hI
  have hF := Fit.gv hE (Nat.le_refl _) hx
  have hf0 : ∀ i, i < P.cnt x.bks → 0 ≤ f i := fun i h => (asg_low (ext_edge hx (Nat.le_refl _) i h)).1
  have hno : (P.gv (P.cnt x.bks) f x.bks).filter P.opn = [] := by
    rw [gv_opn hf0 hbk, P.cnt, List.drop_length]
  have hpn : P.pids (P.gv (P.cnt x.bks) f x.bks) = [] := by rw [P.pids, hno]; rfl
  have hf' : P.frame (P.clS x (P.gv (P.cnt x.bks) f x.bks)) = 0 := by
    obtain ⟨g1, g2, g3, g4, g5⟩ := frame_zero hf
    refine frame_ok g1 g2 (by rw [Bool.and_eq_true]; exact ⟨g3, g4⟩) ?_
    show ¬ 16 < (P.gv (P.cnt x.bks) f x.bks).length
    rw [hF.len]
    omega
  have hrise : (P.gv (P.cnt x.bks) f x.bks).Pairwise (fun a b => a.id < b.id) := by
    have h1 : (x.bks.map (fun b => b.id)).Pairwise (· < ·) := List.pairwise_map.2 hr2
    rw [← hF.ids] at h1
    exact List.pairwise_map.1 h1
  have hI' : P.bksI x.s 0 (P.gv (P.cnt x.bks) f x.bks) = 0 := bksI_of hF.bk (fun z hz => by
    have := (bk_ok (hF.bk z hz)).2.2.2.1
    omega) hrise
  have hp' : P.pre (P.clS x (P.gv (P.cnt x.bks) f x.bks)) = 0 := by
    refine pre_ok hf' hI' ?_
    rw [List.any_eq_false]
    intro z hz
    have := List.filter_eq_nil_iff.1 hno z hz
    exact this
  have hE0 : P.pedg x.s (P.gv (P.cnt x.bks) f x.bks) 0 (P.gv (P.cnt x.bks) f x.bks) = [] := by
    cases hp : P.pedg x.s (P.gv (P.cnt x.bks) f x.bks) 0 (P.gv (P.cnt x.bks) f x.bks) with
    | nil => rfl
    | cons z t =>
      have := pedg_mem (show z ∈ P.pedg x.s (P.gv (P.cnt x.bks) f x.bks) 0 (P.gv (P.cnt x.bks) f x.bks) by rw [hp]; simp)
      rw [hno] at this
      simp at this
      omega
  refine .inr ⟨hp', 0, .inr (.inr ⟨hF.tw, hF.mn, 0, ?_, ?_⟩), rfl⟩
  · show Ma.MaxM (P.pedg x.s (P.gv (P.cnt x.bks) f x.bks) 0 (P.gv (P.cnt x.bks) f x.bks)) 0
    rw [hE0]
    exact ⟨⟨[], ⟨by simp, by simp⟩, rfl⟩, fun m hm => by
      cases m with
      | nil => simp
      | cons z t => exact absurd (hm.1 z (by simp)) (by simp)⟩
  · show (0 : Int) = if 0 < (P.pids (P.gv (P.cnt x.bks) f x.bks)).length then 9 else 0
    rw [hpn]
    rfl
/-- All can be matched in a sailing that is right. -/
theorem right_full {x : Sail} (hE : P.SailE x 0) : P.full (P.cnt x.bks) (P.pedg x.s x.bks 0 x.bks) := by
  obtain ⟨_, _, _, _, _, _, _, c, hc, hcn⟩ := sail_ok hE
  have := kept_len hE hc
  obtain ⟨m, hm, hml⟩ := hc.1
  exact ⟨m, hm, by rw [hml, this, pids_len]; rfl⟩

end Go.Proofs.YtlamhfbdeinkkaeGreat.St
