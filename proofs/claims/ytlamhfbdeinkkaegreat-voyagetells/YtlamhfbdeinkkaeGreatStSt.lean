/- stockBegun. -/
import Derived.Test.YtlamhfbdeinkkaeGreatStRt
import Derived.Test.YtlamhfbdeinkkaeGreatAnCt
namespace Go.Proofs.YtlamhfbdeinkkaeGreat.St
open Go.RowKit Bk
set_option linter.unusedSimpArgs false
set_option linter.unusedVariables false
set_option maxRecDepth 10000

def T.B2 : Bkg := ⟨10, 2, 1, 4, false, -1, 0, 0, 3, 4, []⟩
theorem t_pre : P.pre T.C = 0 ∧ P.twice T.C = false ∧ P.many T.C = false := by decide +kernel
theorem t_ids : P.pids T.C.bks = [9] ∧ P.pedg T.C.s T.C.bks 0 T.C.bks = [(0, 0), (0, 2)] := by decide +kernel
theorem t_max : Ma.MaxM [(0, 0), (0, 2)] 1 := by
  refine ⟨⟨[(0, 0)], ⟨by simp, by simp⟩, rfl⟩, fun m hm => ?_⟩
  obtain ⟨h1, h2⟩ := hm
  match m with
  | [] => simp
  | [_] => simp
  | x :: y :: t =>
    exfalso
    have hx := h1 x (by simp)
    have hy := h1 y (by simp)
    have h := (List.pairwise_cons.1 h2).1 y (by simp)
    have e1 : x.1 = 0 := by simp at hx; rcases hx with rfl | rfl <;> rfl
    have e2 : y.1 = 0 := by simp at hy; rcases hy with rfl | rfl <;> rfl
    exact h.1 (by rw [e1, e2])
theorem t_sail : P.SailE T.C 0 := .inr ⟨t_pre.1, 0, .inr (.inr ⟨t_pre.2.1, t_pre.2.2, 1, by rw [t_ids.2]; exact t_max, by rw [t_ids.1]; rfl⟩), rfl⟩
theorem edges2_at (w : World) (a b c d : Int) : Ma.EdgesAt (w.alloc (.cells #[.int .i64 a, .int .i64 b, .int .i64 c, .int .i64 d] 85)) (some ⟨w.heap.size, 0, none⟩) 2 [(a, b), (c, d)] :=
  SlAt.ofBlock (l := [(a, b), (c, d)]) [[.int .i64 a, .int .i64 b], [.int .i64 c, .int .i64 d]] (heap_alloc_new _ _) rfl rfl (fun i hi => by
    have hi : i < 2 := hi
    match i, hi with
    | 0, _ => exact ⟨_, rfl, rfl⟩
    | 1, _ => exact ⟨_, rfl, rfl⟩) (by simp) (by simp [maxLen])
theorem int1_at (w : World) (a : Int) : IntsAt (w.alloc (.cells #[.int .i64 a] 3)) (some ⟨w.heap.size, 0, none⟩) 1 [a] :=
  SlAt.ofBlock (l := [a]) [[.int .i64 a]] (heap_alloc_new _ _) rfl rfl (fun i hi => by
    have hi : i < 1 := hi
    match i, hi with
    | 0, _ => exact ⟨_, rfl, rfl⟩) (by simp) (by simp [maxLen])

end Go.Proofs.YtlamhfbdeinkkaeGreat.St
namespace Go.Proofs.YtlamhfbdeinkkaeGreat.St
open Go.RowKit Bk
set_option linter.unusedSimpArgs false
set_option linter.unusedVariables false
set_option maxRecDepth 10000

theorem isM_le {E m : List (Int × Int)} {n : Nat} (hE : ∀ x ∈ E, 0 ≤ x.1 ∧ x.1 < (n : Int)) (hm : Ma.IsM E m) : m.length ≤ n := by
  have hnd : (m.map (fun z => z.1)).Nodup := by
    rw [List.nodup_iff_pairwise_ne, List.pairwise_map]
    refine (List.pairwise_iff_getElem.2 fun i j hi hj hij => ?_)
    exact (List.pairwise_iff_getElem.1 hm.2 i j hi hj hij).1
  have := Ma.pigeon n _ hnd (fun x hx => by
    obtain ⟨z, hz, rfl⟩ := List.mem_map.1 hx
    exact hE z (hm.1 z hz))
  simpa using this
theorem pedg_left {x : Sail} : ∀ z ∈ P.pedg x.s x.bks 0 x.bks, 0 ≤ z.1 ∧ z.1 < ((P.pids x.bks).length : Int) := fun z hz => by
  have := pedg_mem hz
  rw [pids_len]
  omega
/-- As many promises as the greatest matching has edges. -/
theorem kept_len {x : Sail} {k : Nat} (h : P.SailE x 0) (hk : Ma.MaxM (P.pedg x.s x.bks 0 x.bks) k) : k = (P.pids x.bks).length := by
  obtain ⟨_, _, _, _, _, _, _, c, hc, hle⟩ := sail_ok h
  have e := Ma.MaxM.one hk hc
  obtain ⟨m, hm, hml⟩ := hk.1
  have := isM_le pedg_left hm
  omega
theorem adds_apart {n : Int} {acc r : List (Int × Int)} (h : P.addsE n acc r = 0) : (∀ z ∈ acc, ∀ y ∈ r, Sp.P.meet z.1 z.2 y.1 y.2 = false) ∧ r.Pairwise (fun a b => Sp.P.meet a.1 a.2 b.1 b.2 = false) := by
  induction r generalizing acc with
  | nil => simp
  | cons y r ih =>
    rw [P.addsE] at h
    split at h
    · rename_i he
      obtain ⟨_, _, h3, h4⟩ := Sp.add_ok he
      rw [h4] at h
      obtain ⟨i1, i2⟩ := ih h
      refine ⟨fun z hz u hu => ?_, List.pairwise_cons.2 ⟨fun u hu => i1 (y.1, y.2) (Sp.mem_ins.2 (.inl rfl)) u hu, i2⟩⟩
      rcases List.mem_cons.1 hu with rfl | hu
      · exact h3 z hz
      · exact i1 z (Sp.mem_ins.2 (.inr hz)) u hu
    · contradiction
end Go.Proofs.YtlamhfbdeinkkaeGreat.St
namespace Go.Proofs.YtlamhfbdeinkkaeGreat.St
open Go.RowKit Bk
set_option linter.unusedSimpArgs false
set_option linter.unusedVariables false
set_option maxRecDepth 10000

/-- Spans that lie apart can be added one by one. -/
theorem adds_of {n : Int} {acc r : List (Int × Int)} (hc : Sp.P.calendar acc n = 0) (hk : ∀ y ∈ r, P.chk y.1 y.2 n = 0) (h1 : ∀ z ∈ acc, ∀ y ∈ r, Sp.P.meet z.1 z.2 y.1 y.2 = false) (h2 : r.Pairwise (fun a b => Sp.P.meet a.1 a.2 b.1 b.2 = false)) : P.addsE n acc r = 0 := by
  induction r generalizing acc with
  | nil => rfl
  | cons y r ih =>
    have he : Sp.P.addE acc n y.1 y.2 = 0 := by
      rw [Sp.P.addE, if_pos (both_of hc (hk y (by simp))), if_neg]
      intro hlt
      have := List.findIdx_lt_length.1 hlt
      obtain ⟨z, hz, e⟩ := this
      rw [h1 z hz y (by simp)] at e
      cases e
    rw [P.addsE, if_pos he]
    obtain ⟨p1, p2⟩ := List.pairwise_cons.1 h2
    refine ih (add_cal he) (fun u hu => hk u (by simp [hu])) (fun z hz u hu => ?_) p2
    rw [(Sp.add_ok he).2.2.2] at hz
    rcases Sp.mem_ins.1 hz with rfl | hz
    · exact p1 u hu
    · exact h1 z hz u (by simp [hu])

/-- Numbers that rise. -/
theorem bksI_rise {s : Vsl} {p : Int} {l : List Bkg} (h : P.bksI s p l = 0) : (∀ b ∈ l, p < b.id) ∧ l.Pairwise (fun a b => a.id < b.id) := by
  induction l generalizing p with
  | nil => simp
  | cons b t ih =>
    rw [P.bksI] at h
    split at h
    · split at h
      · omega
      · rename_i hp
        obtain ⟨i1, i2⟩ := ih h
        refine ⟨fun y hy => ?_, List.pairwise_cons.2 ⟨i1, i2⟩⟩
        rcases List.mem_cons.1 hy with rfl | hy
        · omega
        · have := i1 y hy; omega
    · contradiction
theorem bksI_of {s : Vsl} {p : Int} {l : List Bkg} (hb : ∀ b ∈ l, P.bkE s b = 0) (h1 : ∀ b ∈ l, p < b.id) (h2 : l.Pairwise (fun a b => a.id < b.id)) : P.bksI s p l = 0 := by
  induction l generalizing p with
  | nil => rfl
  | cons b t ih =>
    obtain ⟨p1, p2⟩ := List.pairwise_cons.1 h2
    rw [P.bksI, if_pos (hb b (by simp)), if_neg (by have := h1 b (by simp); omega)]
    exact ih (fun y hy => hb y (by simp [hy])) p1 p2
theorem ins_less {A B : List Bkg} {y : Bkg} (h : (A ++ y :: B).Pairwise (fun a b => a.id < b.id)) : P.insB y (A ++ B) = A ++ y :: B := by
  obtain ⟨hA, hB, hAB⟩ := List.pairwise_append.1 h
  obtain ⟨hyB, _⟩ := List.pairwise_cons.1 hB
  have a1 : ∀ z ∈ A, z.id < y.id := fun z hz => hAB z hz y (by simp)
  have e1 : A.filter (fun z => decide (z.id < y.id)) = A := List.filter_eq_self.2 (fun z hz => by simpa using a1 z hz)
  have e2 : B.filter (fun z => decide (z.id < y.id)) = [] := List.filter_eq_nil_iff.2 (fun z hz => by have := hyB z hz; simp; omega)
  have e3 : A.filter (fun z => decide (y.id < z.id)) = [] := List.filter_eq_nil_iff.2 (fun z hz => by have := a1 z hz; simp; omega)
  have e4 : B.filter (fun z => decide (y.id < z.id)) = B := List.filter_eq_self.2 (fun z hz => by simpa using hyB z hz)
  rw [P.insB, List.filter_append, List.filter_append, e1, e2, e3, e4, List.append_nil, List.nil_append]

/-- Which edges there are. -/
theorem pedg_iff {s : Vsl} {l m : List Bkg} {i : Nat} {z : Int × Int} : z ∈ P.pedg s l i m ↔ ∃ (j : Nat) (b : Bkg) (c : Nat), (m.filter P.opn)[j]? = some b ∧ z = (((i + j : Nat) : Int), (c : Int)) ∧ c < s.bs.length ∧ P.elC s l b c = true := by
  induction m generalizing i with
  | nil => simp [P.pedg]
  | cons x t ih =>
    rw [P.pedg, List.filter_cons]
    split
    · rw [List.mem_append, ih]
      constructor
      · rintro (h | ⟨j, b, c, h1, h2, h3⟩)
        · obtain ⟨c, hc, rfl⟩ := List.mem_map.1 h
          obtain ⟨hc1, hc2⟩ := List.mem_filter.1 hc
          exact ⟨0, x, c, rfl, rfl, List.mem_range.1 hc1, hc2⟩
        · exact ⟨j + 1, b, c, by simpa using h1, by rw [h2]; congr 1; omega, h3⟩
      · rintro ⟨j, b, c, h1, h2, h3, h4⟩
        cases j with
        | zero =>
          left
          simp at h1
          subst h1
          exact List.mem_map.2 ⟨c, List.mem_filter.2 ⟨List.mem_range.2 h3, h4⟩, h2.symm⟩
        | succ j =>
          right
          exact ⟨j, b, c, by simpa using h1, by rw [h2]; congr 1; omega, h3, h4⟩
    · exact ih
theorem elC_less {s : Vsl} {A B : List Bkg} {y b : Bkg} {c : Nat} (h : P.elC s (A ++ y :: B) b c = true) : P.elC s (A ++ B) b c = true := by
  rw [P.elC, Bool.and_eq_true, decide_eq_true_iff, mine_nil] at h ⊢
  refine ⟨?_, h.2⟩
  have h1 := h.1
  rw [List.any_eq_false] at h1 ⊢
  intro z hz
  exact h1 z (by simp at hz ⊢; rcases hz with h | h <;> simp [h])

/-- Without one of its bookings all promises can still be matched. -/
theorem less_match {s : Vsl} {A B : List Bkg} {y : Bkg} {c : Nat} (hc : Ma.MaxM (P.pedg s (A ++ y :: B) 0 (A ++ y :: B)) c) (hn : (P.pids (A ++ y :: B)).length ≤ c) : ∃ c', Ma.MaxM (P.pedg s (A ++ B) 0 (A ++ B)) c' ∧ (P.pids (A ++ B)).length ≤ c' := by
  obtain ⟨m, hm, hml⟩ := hc.1
  have hbd : ∀ z ∈ P.pedg s (A ++ B) 0 (A ++ B), 0 ≤ z.1 ∧ z.1 < ((P.pids (A ++ B)).length : Int) := fun z hz => by
    have := pedg_mem hz
    rw [pids_len]
    omega
  obtain ⟨c', hc'⟩ := max_ex (P.pids (A ++ B)).length (fun m hm => isM_le hbd hm)
  refine ⟨c', hc', ?_⟩
  suffices h : ∃ m', Ma.IsM (P.pedg s (A ++ B) 0 (A ++ B)) m' ∧ (P.pids (A ++ B)).length ≤ m'.length by
    obtain ⟨m', h1, h2⟩ := h
    have := hc'.2 m' h1
    omega
  rw [pids_len] at hn ⊢
  rw [List.filter_append, List.filter_cons] at hn
  rw [List.filter_append]
  cases ho : P.opn y
  · rw [ho] at hn
    simp only [Bool.false_eq_true, if_false] at hn
    refine ⟨m, ⟨fun z hz => ?_, hm.2⟩, by omega⟩
    obtain ⟨j, b, k, h1, h2, h3, h4⟩ := pedg_iff.1 (hm.1 z hz)
    refine pedg_iff.2 ⟨j, b, k, ?_, h2, h3, elC_less h4⟩
    rw [List.filter_append, List.filter_cons, ho] at h1
    rw [List.filter_append]
    simpa using h1
  · rw [ho] at hn
    simp only [if_true] at hn
    rw [List.length_append, List.length_cons] at hn
    rw [List.length_append]
    generalize hp : (A.filter P.opn).length = p at hn
    let f : Int × Int → Int × Int := fun z => (if z.1 < (p : Int) then z.1 else z.1 - 1, z.2)
    refine ⟨(m.filter (fun z => decide (z.1 ≠ (p : Int)))).map f, ⟨fun z hz => ?_, ?_⟩, ?_⟩
    · obtain ⟨u, hu, rfl⟩ := List.mem_map.1 hz
      obtain ⟨hu1, hu2⟩ := List.mem_filter.1 hu
      rw [decide_eq_true_iff] at hu2
      obtain ⟨j, b, k, h1, h2, h3, h4⟩ := pedg_iff.1 (hm.1 u hu1)
      rw [List.filter_append, List.filter_cons, if_pos ho] at h1
      have hj : j ≠ p := fun e => hu2 (by rw [h2, e]; simp)
      refine pedg_iff.2 ⟨if j < p then j else j - 1, b, k, ?_, ?_, h3, elC_less h4⟩
      · rw [List.filter_append]
        by_cases hjp : j < p
        · rw [if_pos hjp]
          rw [List.getElem?_append_left (by omega)] at h1 ⊢
          exact h1
        · rw [if_neg hjp]
          rw [List.getElem?_append_right (by omega)] at h1 ⊢
          rw [hp] at h1 ⊢
          rw [show j - p = (j - 1 - p) + 1 by omega, List.getElem?_cons_succ] at h1
          exact h1
      · rw [h2]
        show ((if (((0 + j : Nat) : Int)) < (p : Int) then (((0 + j : Nat) : Int)) else ((0 + j : Nat) : Int) - 1), (k : Int)) = _
        by_cases hjp : j < p
        · rw [if_pos (by omega), if_pos hjp]
        · rw [if_neg (by omega), if_neg hjp]
          congr 1
          omega
    · rw [List.pairwise_map]
      refine (List.pairwise_iff_getElem.2 fun i j hi hj hij => ?_)
      have hw : (m.filter (fun z => decide (z.1 ≠ (p : Int)))).Pairwise (fun a b => a.1 ≠ b.1 ∧ a.2 ≠ b.2) := hm.2.filter _
      have h := List.pairwise_iff_getElem.1 hw i j hi hj hij
      have hi2 := (List.mem_filter.1 (List.getElem_mem hi)).2
      have hj2 := (List.mem_filter.1 (List.getElem_mem hj)).2
      rw [decide_eq_true_iff] at hi2 hj2
      generalize (m.filter (fun z => decide (z.1 ≠ (p : Int))))[i] = u at h hi2 ⊢
      generalize (m.filter (fun z => decide (z.1 ≠ (p : Int))))[j] = v at h hj2 ⊢
      refine ⟨?_, h.2⟩
      have h1 := h.1
      show (if u.1 < (p : Int) then u.1 else u.1 - 1) ≠ (if v.1 < (p : Int) then v.1 else v.1 - 1)
      split <;> split <;> omega
    · rw [List.length_map]
      have hle : m.length ≤ (m.filter (fun z => decide (z.1 ≠ (p : Int)))).length + 1 := by
        have hw := hm.2
        clear hm hml hn
        induction m with
        | nil => simp
        | cons u t ih =>
          obtain ⟨w1, w2⟩ := List.pairwise_cons.1 hw
          rw [List.filter_cons]
          by_cases hu : u.1 = (p : Int)
          · rw [if_neg (by simp [hu])]
            have : t.filter (fun z => decide (z.1 ≠ (p : Int))) = t := List.filter_eq_self.2 (fun z hz => by
              have := (w1 z hz).1
              simp
              intro e
              exact this (by rw [hu, e]))
            rw [this]
            simp
          · rw [if_pos (by simp [hu]), List.length_cons, List.length_cons]
            have := ih w2
            omega
      omega

/-- A sailing with other bookings. -/
def P.setB (x : Sail) (l : List Bkg) : Sail := ⟨x.s, x.L, x.al, x.th, x.B, x.dn, x.day, x.lvs, l, x.cl⟩
theorem mst_mono {n : Nat} {l l' : List Bkg} {k : Int} (h : ∀ j : Nat, P.soul (j : Nat) l' ≤ P.soul (j : Nat) l) (hm : P.mst 0 (P.soulsL n l) ≤ k) : P.mst 0 (P.soulsL n l') ≤ k := by
  obtain ⟨h0, h1⟩ := mst_le.1 hm
  refine mst_le.2 ⟨h0, fun y hy => ?_⟩
  obtain ⟨j, hj, rfl⟩ := List.mem_map.1 hy
  have := h1 _ (List.mem_map.2 ⟨j, hj, rfl⟩)
  have := h j
  omega
/-- H4. -/
theorem sail_less {x : Sail} {A B : List Bkg} {y : Bkg} (hl : x.bks = A ++ y :: B) (h : P.SailE x 0) : P.SailE (P.setB x (A ++ B)) 0 ∧ P.couldE (P.setB x (A ++ B)) y 0 = 0 ∧ P.withB (P.setB x (A ++ B)) y = x := by
  obtain ⟨hpre, hf, h0, hbk, h16, ht, hmn, c, hc, hcn⟩ := sail_ok h
  obtain ⟨_, hbI, hcl⟩ := pre_zero hpre
  obtain ⟨hr1, hr2⟩ := bksI_rise hbI
  have sub : ∀ z ∈ A ++ B, z ∈ x.bks := fun z hz => by rw [hl]; simp at hz ⊢; rcases hz with h | h <;> simp [h]
  have hsl : (A ++ B).Sublist x.bks := by rw [hl]; exact List.Sublist.append (List.Sublist.refl _) (List.sublist_cons_self _ _)
  have hbk' : ∀ z ∈ A ++ B, P.bkE x.s z = 0 := fun z hz => hbk z (sub z hz)
  have hy : y ∈ x.bks := by rw [hl]; simp
  have hf' : P.frame (P.setB x (A ++ B)) = 0 := by
    obtain ⟨g1, g2, g3, g4, g5⟩ := frame_zero hf
    refine frame_ok g1 g2 (by rw [Bool.and_eq_true]; exact ⟨g3, g4⟩) ?_
    have := hsl.length_le
    show ¬ 16 < (A ++ B).length
    omega
  have hI' : P.bksI x.s 0 (A ++ B) = 0 := bksI_of hbk' (fun z hz => hr1 z (sub z hz)) (hr2.sublist hsl)
  have hp' : P.pre (P.setB x (A ++ B)) = 0 := by
    refine pre_ok hf' hI' ?_
    rw [List.any_eq_false] at hcl ⊢
    exact fun z hz => hcl z (sub z hz)
  have hlg : P.sails x.s.legs = true := by have := shp_size h0; simp [P.sails]; omega
  have ht' : P.twice (P.setB x (A ++ B)) = false := by
    refine twice_none (fun d hd => ?_)
    have hB : P.addsB x.s.legs (P.mine (d : Nat) x.bks) = true := by
      apply Classical.byContradiction
      intro hh
      have := twice_hit (x := x) (c := d) hd (by simpa using hh)
      rw [ht] at this
      cases this
    have hz : P.addsE x.s.legs [] (P.mine (d : Nat) x.bks) = 0 := by simpa [P.addsB] using hB
    have hs : (P.mine (d : Nat) (A ++ B)).Sublist (P.mine (d : Nat) x.bks) := (hsl.filter _).map _
    have : P.addsE x.s.legs [] (P.mine (d : Nat) (A ++ B)) = 0 := adds_of (nil_cal hlg) (fun z hz => by
      obtain ⟨b, hb, rfl⟩ := List.mem_map.1 hz
      exact (bk_ok (hbk' b (List.mem_filter.1 hb).1)).1) (by simp) ((adds_apart hz).2.sublist hs)
    show P.addsB x.s.legs (P.mine (d : Nat) (A ++ B)) = true
    simpa [P.addsB] using this
  have hm' : P.many (P.setB x (A ++ B)) = false := by
    rw [P.many, decide_eq_false_iff_not] at hmn ⊢
    have hmn : P.mst 0 (P.soulsL x.s.legs.toNat x.bks) ≤ x.s.souls := by omega
    have := mst_mono (l' := A ++ B) (fun j => by
      rw [hl, soul_append, soul_append, P.soul]
      have := onLeg_bd (k := (j : Nat)) (hbk y hy)
      omega) hmn
    show ¬ x.s.souls < P.mst 0 (P.soulsL x.s.legs.toNat (A ++ B))
    omega
  rw [hl] at hc hcn
  obtain ⟨c', hc', hcn'⟩ := less_match hc hcn
  refine ⟨.inr ⟨hp', 0, .inr (.inr ⟨ht', hm', c', hc', ?_⟩), rfl⟩, ?_, ?_⟩
  · rw [if_neg (by show ¬ c' < (P.pids (A ++ B)).length; omega)]
  · rw [P.couldE, if_pos rfl, if_pos (show P.bkE (P.setB x (A ++ B)).s y = 0 from hbk y hy), if_neg]
    intro ha
    obtain ⟨z, hz, e⟩ := List.any_eq_true.1 ha
    rw [decide_eq_true_iff] at e
    rw [hl] at hr2
    obtain ⟨hA, hB, hAB⟩ := List.pairwise_append.1 hr2
    rcases List.mem_append.1 (show z ∈ A ++ B from hz) with h1 | h1
    · have := hAB z h1 y (by simp)
      omega
    · have := (List.pairwise_cons.1 hB).1 z h1
      omega
  · obtain ⟨s, L, al, th, B', dn, day, lvs, bks, cl⟩ := x
    simp only at hl hr2
    subst hl
    show (⟨s, L, al, th, B', dn, day, lvs, P.insB y (A ++ B), cl⟩ : Sail) = _
    rw [ins_less hr2]

end Go.Proofs.YtlamhfbdeinkkaeGreat.St
namespace Go.Proofs.YtlamhfbdeinkkaeGreat.St
open Go.RowKit Bk
set_option linter.unusedSimpArgs false
set_option linter.unusedVariables false
set_option maxRecDepth 10000

/-- The sailing beside an errno. -/
def P.zeroS : Sail := ⟨⟨0, 0, [], []⟩, [], 0, 0, [], 0, 0, 0, [], false⟩
def A.zeroS : SailA := ⟨⟨none, none, 0, 0⟩, none, none, 0, 0, none, 0⟩
theorem zero_at (w : World) : SailAt w P.zeroS A.zeroS := ⟨⟨SlAt.nilOf _, SlAt.nilOf _⟩, ⟨SlAt.nilOf _, SlAt.nilOf _⟩, SlAt.nilOf _⟩

/-- An option is decided in time; anything else is. -/
def P.waits (x : Sail) (b : Bkg) : Bool := decide (b.state ≠ 1) || (decide (x.day ≤ b.til) && decide (b.til < x.lvs))
/-- By which category one pays. -/
def P.catOf (k : Int) (x : Sail) (b : Bkg) : Int := if k = 1 then (P.cabAt x.s b.cabin).2.1 else b.cat
def P.fee (k : Int) (x : Sail) (b : Bkg) : Int := Fo.P.price x.L x.al x.th x.B x.dn x.s.cs.length x.s.legs (P.catOf k x b) b.frm b.to b.guests
def P.setF (b : Bkg) (l : List Fo.Ent) : Bkg := ⟨b.id, b.kind, b.state, b.guests, b.level, b.cabin, b.cat, b.frm, b.to, b.til, l⟩
/-- As it is sold. -/
def P.priced (k : Int) (x : Sail) (b : Bkg) : Bkg := P.setF b [(x.day, 1, P.fee k x b)]
def P.isIn (id : Int) (l : List Bkg) : Bool := l.any (fun y => decide (y.id = id))
/-- I1: what is wrong ahead of the room. -/
def P.lateE (k : Int) (x : Sail) (b : Bkg) : Int :=
  if (x.lvs ≤ x.day ∨ P.waits x b = false) ∨ (k = 2 ∧ x.cl = true) then 4 else if P.isIn b.id x.bks = true then 6 else if 16 ≤ x.bks.length then 2 else 0
def P.sellE (k : Int) (x : Sail) (b : Bkg) : Int :=
  if b.kind = k ∧ b.state ≠ 3 then (if 0 < b.fol.length ∨ (k = 2 ∧ b.cabin ≠ -1) then 1 else if P.bkE x.s b = 0 then P.lateE k x b else P.bkE x.s b) else 7
/-- I1: the sailing that comes, or the errno: of a sailing that is right. -/
def P.Sells (k : Int) (x : Sail) (b : Bkg) (r : Int) (y : Sail) : Prop :=
  (¬ P.sellE k x b = 0 ∧ r = P.sellE k x b ∧ y = P.zeroS) ∨
  (P.sellE k x b = 0 ∧ P.Room (P.withB x (P.priced k x b)) r ∧ ((r = 0 ∧ y = P.withB x (P.priced k x b)) ∨ (¬ r = 0 ∧ y = P.zeroS)))
/-- Of whatever sailing. -/
def P.SellS (k : Int) (x : Sail) (b : Bkg) (r : Int) (y : Sail) : Prop := (∃ q, P.SailE x q ∧ ¬ q = 0 ∧ r = q ∧ y = P.zeroS) ∨ (P.SailE x 0 ∧ P.Sells k x b r y)
theorem Sells.one {k : Int} {x : Sail} {b : Bkg} {r r' : Int} {y y' : Sail} (h : P.Sells k x b r y) (h' : P.Sells k x b r' y') : r = r' ∧ y = y' := by
  rcases h with ⟨a1, rfl, rfl⟩ | ⟨a1, a2, a3⟩ <;> rcases h' with ⟨b1, rfl, rfl⟩ | ⟨b1, b2, b3⟩
  · exact ⟨rfl, rfl⟩
  · exact absurd b1 a1
  · exact absurd a1 b1
  · obtain rfl := Room.one a2 b2
    refine ⟨rfl, ?_⟩
    rcases a3 with ⟨c1, rfl⟩ | ⟨c1, rfl⟩ <;> rcases b3 with ⟨d1, rfl⟩ | ⟨d1, rfl⟩
    · rfl
    · exact absurd c1 d1
    · exact absurd d1 c1
    · rfl
theorem SellS.one {k : Int} {x : Sail} {b : Bkg} {r r' : Int} {y y' : Sail} (h : P.SellS k x b r y) (h' : P.SellS k x b r' y') : r = r' ∧ y = y' := by
  rcases h with ⟨q, a1, a2, rfl, rfl⟩ | ⟨a1, a2⟩ <;> rcases h' with ⟨q', b1, b2, rfl, rfl⟩ | ⟨b1, b2⟩
  · exact ⟨SailE.one a1 b1, rfl⟩
  · exact absurd (SailE.one a1 b1) a2
  · exact absurd (SailE.one b1 a1) b2
  · exact Sells.one a2 b2
theorem Sells.err {k : Int} {x : Sail} {b : Bkg} {r : Int} {y : Sail} (h : P.Sells k x b r y) (hr : ¬ r = 0) : y = P.zeroS := by
  rcases h with ⟨a1, rfl, rfl⟩ | ⟨a1, a2, ⟨a3, _⟩ | ⟨_, rfl⟩⟩
  · rfl
  · exact absurd a3 hr
  · rfl
theorem SellS.err {k : Int} {x : Sail} {b : Bkg} {r : Int} {y : Sail} (h : P.SellS k x b r y) (hr : ¬ r = 0) : y = P.zeroS := by
  rcases h with ⟨q, a1, a2, rfl, rfl⟩ | ⟨a1, a2⟩
  · rfl
  · exact Sells.err a2 hr

end Go.Proofs.YtlamhfbdeinkkaeGreat.St
namespace Go.Proofs.YtlamhfbdeinkkaeGreat.St
open Go.RowKit Bk
set_option linter.unusedSimpArgs false
set_option linter.unusedVariables false
set_option maxRecDepth 10000

/-- Blocks from p to n, and from N on, are as they were. -/
def Gap (p n N : Nat) (w w' : World) : Prop := w.heap.size ≤ w'.heap.size ∧ ∀ b, (p ≤ b ∧ b < n ∨ N ≤ b) → b < w.heap.size → w'.heap[b]? = w.heap[b]?
theorem Gap.trans {p n N : Nat} {a b c : World} (h : Gap p n N a b) (k : Gap p n N b c) : Gap p n N a c :=
  ⟨Nat.le_trans h.1 k.1, fun i h0 hi => by rw [k.2 i h0 (Nat.lt_of_lt_of_le hi h.1), h.2 i h0 hi]⟩
theorem Gap.refl {p n N : Nat} (a : World) : Gap p n N a a := ⟨Nat.le_refl _, fun _ _ _ => rfl⟩
theorem Gap.below {p n N : Nat} {a b : World} (h : Below a.heap.size a b) : Gap p n N a b := ⟨h.size, fun i _ hi => h.block i hi⟩
theorem Gap.gr {p n N g : Nat} {a b : World} (h : a.grownBy b (some g)) (h1 : n ≤ g ∨ g < p) (h2 : g < N) : Gap p n N a b := ⟨h.size, fun i h0 hi => h.block i hi (by simp; omega)⟩
theorem Gap.up {p n N : Nat} {a b : World} (h : Up p a b) (hN : p ≤ N) : Gap p n N a b := ⟨h.1, fun i h0 hi => h.2 i (by omega) hi⟩
/-- A sailing that lies in blocks from N on. -/
def SailUp (N : Nat) (w : World) (y : Sail) (a : SailA) : Prop := ∀ U, Up N w U → SailAt U y a
theorem SailUp.at {N : Nat} {w : World} {y : Sail} {a : SailA} (h : SailUp N w y a) : SailAt w y a := h w ⟨Nat.le_refl _, fun _ _ _ => rfl⟩
theorem SailUp.up {N : Nat} {w w' : World} {y : Sail} {a : SailA} (h : SailUp N w y a) (hu : Up N w w') : SailUp N w' y a := fun U hU => h U (hu.trans hU)
theorem SailUp.below {N : Nat} {w w' : World} {y : Sail} {a : SailA} (h : SailUp N w y a) (hb : Below w.heap.size w w') : SailUp N w' y a := h.up (Up.below hb)
theorem SailUp.mono {N M : Nat} {w : World} {y : Sail} {a : SailA} (h : SailUp N w y a) (hM : M ≤ N) : SailUp M w y a := fun U hU => h U (hU.mono hM)
theorem SailUp.zero (N : Nat) (w : World) : SailUp N w P.zeroS A.zeroS := fun U _ => zero_at U

/-- What a function does to a sailing of its own: an errno of which E tells, or a sailing of which Q does. -/
def HowOk (p : Nat) (w : World) (x : Sail) (F : Nat) (cs : Array Value) (E : Int → Prop) (Q : Sail → Prop) : Prop :=
  ∀ (w1 : World) (N m G : Nat) (a : SailA) (lv : List BkV), Below w.heap.size w w1 → w.heap.size ≤ N → Fresh w1 N m G x a lv →
    Calls Tryz.prog F (#[.pointer (some ⟨w1.heap.size, 0, none⟩)] ++ cs) (W.sail w1 x a) fun e w' => ∃ r : Int, e = .returned (.int .i64 r) ∧ E r ∧ (r = 0 → ∃ y a', SRow w' w1.heap.size y a' ∧ Q y ∧ ∀ U, Gap p w.heap.size N w' U → SailAt U y a') ∧ Below m (W.sail w1 x a) w'
/-- What anew.Sailing answers then. -/
def P.Anew (E : Int → Prop) (Q : Sail → Prop) (r : Int) (y : Sail) : Prop :=
  (E r ∧ ¬ r = 0 ∧ y = P.zeroS) ∨ (E 0 ∧ ∃ z q, Q z ∧ P.SailE z q ∧ ((q = 0 ∧ r = 0 ∧ y = z) ∨ (¬ q = 0 ∧ r = q ∧ y = P.zeroS)))

set_option maxHeartbeats 4000000 in
theorem anew_any (p : Nat) (x : Sail) (a : SailA) (F : Nat) (cs : Array Value) (E : Int → Prop) (Q : Sail → Prop) (w : World) (hp : p ≤ w.heap.size) (hs : SailAt w x a) (hS : Small x)
    (hcf : ∀ (args : Array Value) (wx : World), (callFunc F args).run Tryz.prog wx = .ok (.enter F args) wx) (hH : HowOk p w x F cs E Q) :
    Calls Tryz.prog 117 #[V.sail x a, .func (.func F) #[] cs] w fun e w' => ∃ r y a', e = .returned (.tuple #[V.sail y a', .int .i64 r]) ∧ P.Anew E Q r y ∧ SailUp p w' y a' ∧ Below w.heap.size w w' := by
  have hb0 : Below w.heap.size w ((W.sail w x a).alloc O.zs) := bvia (sail_below w x a) (by go_grown)
  have hz0 : ((W.sail w x a).alloc O.zs).heap.size = w.heap.size + 1 + 1 := by simp
  have HX0 : Aside (SBox ((W.sail w x a).alloc O.zs) w.heap.size x a) := (SBox.new w x a).below (by go_grown)
  have HZ0 : Aside (RowIs ((W.sail w x a).alloc O.zs) (w.heap.size + 1) C.zs) := by
    have := RowIs.new (W.sail w x a) C.zs 32
    rwa [World.size_alloc] at this
  have HH : Aside (HowOk p w x F cs E Q) := hH
  obtain ⟨d0, d1, d2, d3, d4, d5, d6, d7, d8, d9, d10, d11, d12⟩ := HX0.out
  clear hH
  go_enter Tryz.func117, Tryz.ntmps117
  go_wp2_with fail
  refine (copied_own x a _ (hs.below hb0) hS).mono ?_
  rintro e w1 ⟨a1, lv, m, G, rfl, hF, hb1⟩
  rw [hz0] at hF
  have hB1 := bvia hb0 hb1
  have hB2 := bvia hB1 (sail_below w1 x a1)
  have HC : Aside (Calls Tryz.prog F (#[.pointer (some ⟨w1.heap.size, 0, none⟩)] ++ cs) (W.sail w1 x a1) _) := HH.out w1 (w.heap.size + 1 + 1 + 1 + 1) m G a1 lv hB1 (by omega) hF
  have HM : Aside (w.heap.size + 1 + 1 + 1 + 1 ≤ m) := hF.nm
  have HZ2 : Aside (RowIs (W.sail w1 x a1) (w.heap.size + 1) C.zs) := (HZ0.out.below hb1).below (sail_below w1 x a1)
  clear d0 d1 d2 d3 d4 d5 d6 d7 d8 d9 d10 d11 d12 hF HX0 HZ0 hb0 hb1 hB1 HH
  go_wp2_with fail
  refine HC.out.mono ?_
  rintro e w2 ⟨r, rfl, hE, hQ, hb2⟩
  have HE : Aside (E r) := hE
  have HZ3 : Aside (RowIs w2 (w.heap.size + 1) C.zs) := HZ2.out.low hb2 (by have := HM.out; omega)
  have hB3 : Below w.heap.size w w2 := hB2.trans (hb2.mono (by have := HM.out; omega))
  clear hE HC hB2 hb2 HZ2
  cases hr : (r != 0)
  rotate_left
  · have HN : Aside (¬ r = 0) := by show ¬ _; simpa using hr
    clear hQ
    go_wp2_with (refine wpList_stC rfl 32 _ _ (by rfl) (w.heap.size + 1) C.zs (C.sail P.zeroS A.zeroS) Tryz.sizeSail (by rfl) (by rfl) HZ3.out rfl (sail_one _ _) ?_; intro w9 hr9 hg9)
    exact bodyPost_ret (res2 rfl hr9 _ rfl rfl Tryz.underlying32 rfl Tryz.sizeSail) rfl ⟨r, P.zeroS, A.zeroS, rfl, .inl ⟨HE.out, HN.out, rfl⟩, SailUp.zero _ _, below_gr hB3 hB3.size hg9 (by omega)⟩
  obtain rfl : r = 0 := by simpa using hr
  obtain ⟨y, a2, hR2, hQ2, hU2⟩ := hQ rfl
  have HQ : Aside (Q y) := hQ2
  have HU : Aside (∀ U, Gap p w.heap.size (w.heap.size + 1 + 1 + 1 + 1) w2 U → SailAt U y a2) := hU2
  have HR2 : Aside (SRow w2 w1.heap.size y a2) := hR2
  obtain ⟨d0, d1, d2, d3, d4, d5, d6, d7, d8, d9, d10, d11, d12⟩ := SRow.box hR2
  clear hr hQ hQ2 hU2 hR2
  go_wp2_with fail
  refine (stockCheck_any y a2 _ (HU.out _ (Gap.refl _))).mono ?_
  rintro e w3 ⟨q, rfl, hq, hb3⟩
  have HQ3 : Aside (P.SailE y q) := hq
  have hB4 := bvia hB3 hb3
  have HZ4 : Aside (RowIs w3 (w.heap.size + 1) C.zs) := HZ3.out.below hb3
  have HG3 : Aside (Gap p w.heap.size (w.heap.size + 1 + 1 + 1 + 1) w2 w3) := Gap.below hb3
  have HR3 : Aside (SRow w3 w1.heap.size y a2) := HR2.out.below hb3
  clear d0 d1 d2 d3 d4 d5 d6 d7 d8 d9 d10 d11 d12 hq HZ3 hb3 HR2
  cases hz : (q != 0)
  rotate_left
  · have HN : Aside (¬ q = 0) := by show ¬ _; simpa using hz
    go_wp2_with (refine wpList_stC rfl 32 _ _ (by rfl) (w.heap.size + 1) C.zs (C.sail P.zeroS A.zeroS) Tryz.sizeSail (by rfl) (by rfl) HZ4.out rfl (sail_one _ _) ?_; intro w9 hr9 hg9)
    exact bodyPost_ret (res2 rfl hr9 _ rfl rfl Tryz.underlying32 rfl Tryz.sizeSail) rfl ⟨q, P.zeroS, A.zeroS, rfl, .inr ⟨HE.out, y, q, HQ.out, HQ3.out, .inr ⟨HN.out, rfl, rfl⟩⟩, SailUp.zero _ _, below_gr hB4 hB4.size hg9 (by omega)⟩
  obtain rfl : q = 0 := by simpa using hz
  obtain ⟨d0, d1, d2, d3, d4, d5, d6, d7, d8, d9, d10, d11, d12⟩ := SRow.box HR3.out
  clear hz
  go_wp2_with (refine wpList_stC rfl 32 _ _ (by rfl) (w.heap.size + 1) C.zs (C.sail y a2) Tryz.sizeSail (by rfl) (by rfl) HZ4.out rfl (sail_one _ _) ?_; intro w9 hr9 hg9)
  exact bodyPost_ret (res2 rfl hr9 _ rfl rfl Tryz.underlying32 rfl Tryz.sizeSail) rfl ⟨0, y, a2, rfl, .inr ⟨HE.out, y, 0, HQ.out, HQ3.out, .inl ⟨rfl, rfl, rfl⟩⟩, fun U hU => HU.out _ (Gap.trans HG3.out (Gap.trans (Gap.gr hg9 (by omega) (by omega)) (Gap.up hU (by omega)))), below_gr hB4 hB4.size hg9 (by omega)⟩

end Go.Proofs.YtlamhfbdeinkkaeGreat.St
