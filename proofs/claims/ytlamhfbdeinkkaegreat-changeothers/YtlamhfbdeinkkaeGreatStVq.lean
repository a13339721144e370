/- StockLess: its mathematics. -/
import Derived.Test.YtlamhfbdeinkkaeGreatStSq
namespace Go.Proofs.YtlamhfbdeinkkaeGreat.St
open Go.RowKit Bk
set_option linter.unusedSimpArgs false
set_option linter.unusedVariables false
set_option maxRecDepth 10000

/-- Spans that lie apart can be added one by one. -/
theorem adds_of {n : Int} {acc r : List (Int × Int)} (hc : Sp.P.calendar acc n = 0) (hk : ∀ y ∈ r, P.chk y.1 y.2 n = 0) (h1 : ∀ z ∈ acc, ∀ y ∈ r, Sp.P.meet z.1 z.2 y.1 y.2 = false) (h2 : r.Pairwise (fun a b => Sp.P.meet a.1 a.2 b.1 b.2 = false)) : P.addsE n acc r = 0 := by
  induction r generalizing acc with
  | nil => rfl
  | cons y r ih =>
    have he : Sp.P.addE acc n y.1 y.2 = 0 := by
      rw [Sp.P.addE, if_pos (both_of hc (hk y (by simp))), if_neg]
      intro hlt
      have := List.findIdx_lt_length.1 hlt
      obtain ⟨z, hz, e⟩ := this
      rw [h1 z hz y (by simp)] at e
      cases e
    rw [P.addsE, if_pos he]
    obtain ⟨p1, p2⟩ := List.pairwise_cons.1 h2
    refine ih (add_cal he) (fun u hu => hk u (by simp [hu])) (fun z hz u hu => ?_) p2
    rw [(Sp.add_ok he).2.2.2] at hz
    rcases Sp.mem_ins.1 hz with rfl | hz
    · exact p1 u hu
    · exact h1 z hz u (by simp [hu])

/-- Numbers that rise. -/
theorem bksI_rise {s : Vsl} {p : Int} {l : List Bkg} (h : P.bksI s p l = 0) : (∀ b ∈ l, p < b.id) ∧ l.Pairwise (fun a b => a.id < b.id) := by
  induction l generalizing p with
  | nil => simp
  | cons b t ih =>
    rw [P.bksI] at h
    split at h
    · split at h
      · omega
      · rename_i hp
        obtain ⟨i1, i2⟩ := ih h
        refine ⟨fun y hy => ?_, List.pairwise_cons.2 ⟨i1, i2⟩⟩
        rcases List.mem_cons.1 hy with rfl | hy
        · omega
        · have := i1 y hy; omega
    · contradiction
theorem bksI_of {s : Vsl} {p : Int} {l : List Bkg} (hb : ∀ b ∈ l, P.bkE s b = 0) (h1 : ∀ b ∈ l, p < b.id) (h2 : l.Pairwise (fun a b => a.id < b.id)) : P.bksI s p l = 0 := by
  induction l generalizing p with
  | nil => rfl
  | cons b t ih =>
    obtain ⟨p1, p2⟩ := List.pairwise_cons.1 h2
    rw [P.bksI, if_pos (hb b (by simp)), if_neg (by have := h1 b (by simp); omega)]
    exact ih (fun y hy => hb y (by simp [hy])) p1 p2
theorem ins_less {A B : List Bkg} {y : Bkg} (h : (A ++ y :: B).Pairwise (fun a b => a.id < b.id)) : P.insB y (A ++ B) = A ++ y :: B := by
  obtain ⟨hA, hB, hAB⟩ := List.pairwise_append.1 h
  obtain ⟨hyB, _⟩ := List.pairwise_cons.1 hB
  have a1 : ∀ z ∈ A, z.id < y.id := fun z hz => hAB z hz y (by simp)
  have e1 : A.filter (fun z => decide (z.id < y.id)) = A := List.filter_eq_self.2 (fun z hz => by simpa using a1 z hz)
  have e2 : B.filter (fun z => decide (z.id < y.id)) = [] := List.filter_eq_nil_iff.2 (fun z hz => by have := hyB z hz; simp; omega)
  have e3 : A.filter (fun z => decide (y.id < z.id)) = [] := List.filter_eq_nil_iff.2 (fun z hz => by have := a1 z hz; simp; omega)
  have e4 : B.filter (fun z => decide (y.id < z.id)) = B := List.filter_eq_self.2 (fun z hz => by simpa using hyB z hz)
  rw [P.insB, List.filter_append, List.filter_append, e1, e2, e3, e4, List.append_nil, List.nil_append]

/-- Which edges there are. -/
theorem pedg_iff {s : Vsl} {l m : List Bkg} {i : Nat} {z : Int × Int} : z ∈ P.pedg s l i m ↔ ∃ (j : Nat) (b : Bkg) (c : Nat), (m.filter P.opn)[j]? = some b ∧ z = (((i + j : Nat) : Int), (c : Int)) ∧ c < s.bs.length ∧ P.elC s l b c = true := by
  induction m generalizing i with
  | nil => simp [P.pedg]
  | cons x t ih =>
    rw [P.pedg, List.filter_cons]
    split
    · rw [List.mem_append, ih]
      constructor
      · rintro (h | ⟨j, b, c, h1, h2, h3⟩)
        · obtain ⟨c, hc, rfl⟩ := List.mem_map.1 h
          obtain ⟨hc1, hc2⟩ := List.mem_filter.1 hc
          exact ⟨0, x, c, rfl, rfl, List.mem_range.1 hc1, hc2⟩
        · exact ⟨j + 1, b, c, by simpa using h1, by rw [h2]; congr 1; omega, h3⟩
      · rintro ⟨j, b, c, h1, h2, h3, h4⟩
        cases j with
        | zero =>
          left
          simp at h1
          subst h1
          exact List.mem_map.2 ⟨c, List.mem_filter.2 ⟨List.mem_range.2 h3, h4⟩, h2.symm⟩
        | succ j =>
          right
          exact ⟨j, b, c, by simpa using h1, by rw [h2]; congr 1; omega, h3, h4⟩
    · exact ih
theorem elC_less {s : Vsl} {A B : List Bkg} {y b : Bkg} {c : Nat} (h : P.elC s (A ++ y :: B) b c = true) : P.elC s (A ++ B) b c = true := by
  rw [P.elC, Bool.and_eq_true, decide_eq_true_iff, mine_nil] at h ⊢
  refine ⟨?_, h.2⟩
  have h1 := h.1
  rw [List.any_eq_false] at h1 ⊢
  intro z hz
  exact h1 z (by simp at hz ⊢; rcases hz with h | h <;> simp [h])

/-- Without one of its bookings all promises can still be matched. -/
theorem less_match {s : Vsl} {A B : List Bkg} {y : Bkg} {c : Nat} (hc : Ma.MaxM (P.pedg s (A ++ y :: B) 0 (A ++ y :: B)) c) (hn : (P.pids (A ++ y :: B)).length ≤ c) : ∃ c', Ma.MaxM (P.pedg s (A ++ B) 0 (A ++ B)) c' ∧ (P.pids (A ++ B)).length ≤ c' := by
  obtain ⟨m, hm, hml⟩ := hc.1
  have hbd : ∀ z ∈ P.pedg s (A ++ B) 0 (A ++ B), 0 ≤ z.1 ∧ z.1 < ((P.pids (A ++ B)).length : Int) := fun z hz => by
    have := pedg_mem hz
    rw [pids_len]
    omega
  obtain ⟨c', hc'⟩ := max_ex (P.pids (A ++ B)).length (fun m hm => isM_le hbd hm)
  refine ⟨c', hc', ?_⟩
  suffices h : ∃ m', Ma.IsM (P.pedg s (A ++ B) 0 (A ++ B)) m' ∧ (P.pids (A ++ B)).length ≤ m'.length by
    obtain ⟨m', h1, h2⟩ := h
    have := hc'.2 m' h1
    omega
  rw [pids_len] at hn ⊢
  rw [List.filter_append, List.filter_cons] at hn
  rw [List.filter_append]
  cases ho : P.opn y
  · rw [ho] at hn
    simp only [Bool.false_eq_true, if_false] at hn
    refine ⟨m, ⟨fun z hz => ?_, hm.2⟩, by omega⟩
    obtain ⟨j, b, k, h1, h2, h3, h4⟩ := pedg_iff.1 (hm.1 z hz)
    refine pedg_iff.2 ⟨j, b, k, ?_, h2, h3, elC_less h4⟩
    rw [List.filter_append, List.filter_cons, ho] at h1
    rw [List.filter_append]
    simpa using h1
  · rw [ho] at hn
    simp only [if_true] at hn
    rw [List.length_append, List.length_cons] at hn
    rw [List.length_append]
    generalize hp : (A.filter P.opn).length = p at hn
    let f : Int × Int → Int × Int := fun z => (if z.1 < (p : Int) then z.1 else z.1 - 1, z.2)
    refine ⟨(m.filter (fun z => decide (z.1 ≠ (p : Int)))).map f, ⟨fun z hz => ?_, ?_⟩, ?_⟩
    · obtain ⟨u, hu, rfl⟩ := List.mem_map.1 hz
      obtain ⟨hu1, hu2⟩ := List.mem_filter.1 hu
      rw [decide_eq_true_iff] at hu2
      obtain ⟨j, b, k, h1, h2, h3, h4⟩ := pedg_iff.1 (hm.1 u hu1)
      rw [List.filter_append, List.filter_cons, if_pos ho] at h1
      have hj : j ≠ p := fun e => hu2 (by rw [h2, e]; simp)
      refine pedg_iff.2 ⟨if j < p then j else j - 1, b, k, ?_, ?_, h3, elC_less h4⟩
      · rw [List.filter_append]
        by_cases hjp : j < p
        · rw [if_pos hjp]
          rw [List.getElem?_append_left (by omega)] at h1 ⊢
          exact h1
        · rw [if_neg hjp]
          rw [List.getElem?_append_right (by omega)] at h1 ⊢
          rw [hp] at h1 ⊢
          rw [show j - p = (j - 1 - p) + 1 by omega, List.getElem?_cons_succ] at h1
          exact h1
      · rw [h2]
        show ((if (((0 + j : Nat) : Int)) < (p : Int) then (((0 + j : Nat) : Int)) else ((0 + j : Nat) : Int) - 1), (k : Int)) = _
        by_cases hjp : j < p
        · rw [if_pos (by omega), if_pos hjp]
        · rw [if_neg (by omega), if_neg hjp]
          congr 1
          omega
    · rw [List.pairwise_map]
      refine (List.pairwise_iff_getElem.2 fun i j hi hj hij => ?_)
      have hw : (m.filter (fun z => decide (z.1 ≠ (p : Int)))).Pairwise (fun a b => a.1 ≠ b.1 ∧ a.2 ≠ b.2) := hm.2.filter _
      have h := List.pairwise_iff_getElem.1 hw i j hi hj hij
      have hi2 := (List.mem_filter.1 (List.getElem_mem hi)).2
      have hj2 := (List.mem_filter.1 (List.getElem_mem hj)).2
      rw [decide_eq_true_iff] at hi2 hj2
      generalize (m.filter (fun z => decide (z.1 ≠ (p : Int))))[i] = u at h hi2 ⊢
      generalize (m.filter (fun z => decide (z.1 ≠ (p : Int))))[j] = v at h hj2 ⊢
      refine ⟨?_, h.2⟩
      have h1 := h.1
      show (if u.1 < (p : Int) then u.1 else u.1 - 1) ≠ (if v.1 < (p : Int) then v.1 else v.1 - 1)
      split <;> split <;> omega
    · rw [List.length_map]
      have hle : m.length ≤ (m.filter (fun z => decide (z.1 ≠ (p : Int)))).length + 1 := by
        have hw := hm.2
        clear hm hml hn
        induction m with
        | nil => simp
        | cons u t ih =>
          obtain ⟨w1, w2⟩ := List.pairwise_cons.1 hw
          rw [List.filter_cons]
          by_cases hu : u.1 = (p : Int)
          · rw [if_neg (by simp [hu])]
            have : t.filter (fun z => decide (z.1 ≠ (p : Int))) = t := List.filter_eq_self.2 (fun z hz => by
              have := (w1 z hz).1
              simp
              intro e
              exact this (by rw [hu, e]))
            rw [this]
            simp
          · rw [if_pos (by simp [hu]), List.length_cons, List.length_cons]
            have := ih w2
            omega
      omega

/-- A sailing with other bookings. -/
def P.setB (x : Sail) (l : List Bkg) : Sail := ⟨x.s, x.L, x.al, x.th, x.B, x.dn, x.day, x.lvs, l, x.cl⟩
theorem mst_mono {n : Nat} {l l' : List Bkg} {k : Int} (h : ∀ j : Nat, P.soul (j : Nat) l' ≤ P.soul (j : Nat) l) (hm : P.mst 0 (P.soulsL n l) ≤ k) : P.mst 0 (P.soulsL n l') ≤ k := by
  obtain ⟨h0, h1⟩ := mst_le.1 hm
  refine mst_le.2 ⟨h0, fun y hy => ?_⟩
  obtain ⟨j, hj, rfl⟩ := List.mem_map.1 hy
  have := h1 _ (List.mem_map.2 ⟨j, hj, rfl⟩)
  have := h j
  omega
/-- H4. -/
theorem sail_less {x : Sail} {A B : List Bkg} {y : Bkg} (hl : x.bks = A ++ y :: B) (h : P.SailE x 0) : P.SailE (P.setB x (A ++ B)) 0 ∧ P.couldE (P.setB x (A ++ B)) y 0 = 0 ∧ P.withB (P.setB x (A ++ B)) y = x := by
  obtain ⟨hpre, hf, h0, hbk, h16, ht, hmn, c, hc, hcn⟩ := sail_ok h
  obtain ⟨_, hbI, hcl⟩ := pre_zero hpre
  obtain ⟨hr1, hr2⟩ := bksI_rise hbI
  have sub : ∀ z ∈ A ++ B, z ∈ x.bks := fun z hz => by rw [hl]; simp at hz ⊢; rcases hz with h | h <;> simp [h]
  have hsl : (A ++ B).Sublist x.bks := by rw [hl]; exact List.Sublist.append (List.Sublist.refl _) (List.sublist_cons_self _ _)
  have hbk' : ∀ z ∈ A ++ B, P.bkE x.s z = 0 := fun z hz => hbk z (sub z hz)
  have hy : y ∈ x.bks := by rw [hl]; simp
  have hf' : P.frame (P.setB x (A ++ B)) = 0 := by
    obtain ⟨g1, g2, g3, g4, g5⟩ := frame_zero hf
    refine frame_ok g1 g2 (by rw [Bool.and_eq_true]; exact ⟨g3, g4⟩) ?_
    have := hsl.length_le
    show ¬ 16 < (A ++ B).length
    omega
  have hI' : P.bksI x.s 0 (A ++ B) = 0 := bksI_of hbk' (fun z hz => hr1 z (sub z hz)) (hr2.sublist hsl)
  have hp' : P.pre (P.setB x (A ++ B)) = 0 := by
    refine pre_ok hf' hI' ?_
    rw [List.any_eq_false] at hcl ⊢
    exact fun z hz => hcl z (sub z hz)
  have hlg : P.sails x.s.legs = true := by have := shp_size h0; simp [P.sails]; omega
  have ht' : P.twice (P.setB x (A ++ B)) = false := by
    refine twice_none (fun d hd => ?_)
    have hB : P.addsB x.s.legs (P.mine (d : Nat) x.bks) = true := by
      apply Classical.byContradiction
      intro hh
      have := twice_hit (x := x) (c := d) hd (by simpa using hh)
      rw [ht] at this
      cases this
    have hz : P.addsE x.s.legs [] (P.mine (d : Nat) x.bks) = 0 := by simpa [P.addsB] using hB
    have hs : (P.mine (d : Nat) (A ++ B)).Sublist (P.mine (d : Nat) x.bks) := (hsl.filter _).map _
    have : P.addsE x.s.legs [] (P.mine (d : Nat) (A ++ B)) = 0 := adds_of (nil_cal hlg) (fun z hz => by
      obtain ⟨b, hb, rfl⟩ := List.mem_map.1 hz
      exact (bk_ok (hbk' b (List.mem_filter.1 hb).1)).1) (by simp) ((adds_apart hz).2.sublist hs)
    show P.addsB x.s.legs (P.mine (d : Nat) (A ++ B)) = true
    simpa [P.addsB] using this
  have hm' : P.many (P.setB x (A ++ B)) = false := by
    rw [P.many, decide_eq_false_iff_not] at hmn ⊢
    have hmn : P.mst 0 (P.soulsL x.s.legs.toNat x.bks) ≤ x.s.souls := by omega
    have := mst_mono (l' := A ++ B) (fun j => by
      rw [hl, soul_append, soul_append, P.soul]
      have := onLeg_bd (k := (j : Nat)) (hbk y hy)
      omega) hmn
    show ¬ x.s.souls < P.mst 0 (P.soulsL x.s.legs.toNat (A ++ B))
    omega
  rw [hl] at hc hcn
  obtain ⟨c', hc', hcn'⟩ := less_match hc hcn
  refine ⟨.inr ⟨hp', 0, .inr (.inr ⟨ht', hm', c', hc', ?_⟩), rfl⟩, ?_, ?_⟩
  · rw [if_neg (by show ¬ c' < (P.pids (A ++ B)).length; omega)]
  · rw [P.couldE, if_pos rfl, if_pos (show P.bkE (P.setB x (A ++ B)).s y = 0 from hbk y hy), if_neg]
    intro ha
    obtain ⟨z, hz, e⟩ := List.any_eq_true.1 ha
    rw [decide_eq_true_iff] at e
    rw [hl] at hr2
    obtain ⟨hA, hB, hAB⟩ := List.pairwise_append.1 hr2
    rcases List.mem_append.1 (show z ∈ A ++ B from hz) with h1 | h1
    · have := hAB z h1 y (by simp)
      omega
    · have := (List.pairwise_cons.1 hB).1 z h1
      omega
  · obtain ⟨s, L, al, th, B', dn, day, lvs, bks, cl⟩ := x
    simp only at hl hr2
    subst hl
    show (⟨s, L, al, th, B', dn, day, lvs, P.insB y (A ++ B), cl⟩ : Sail) = _
    rw [ins_less hr2]

end Go.Proofs.YtlamhfbdeinkkaeGreat.St
