/- Plain facts on counts; the walk of CountBack. -/
import Derived.Test.YtcifdkggigfnlabCntE
namespace Go.Proofs.Ytcifdkggigfnlab
open Go.RowKit
set_option linter.unusedSimpArgs false
set_option linter.unusedVariables false

theorem seg_any {l : List Int} {f t : Nat} {p : Int → Bool} (hf : f ≤ t) (ht : t ≤ l.length) : (P.seg l f t).any p = true ↔ ∃ i, f ≤ i ∧ i < t ∧ p (l.getD i 0) = true := by
  rw [List.any_eq_true]
  constructor
  · rintro ⟨x, hx, hp⟩
    obtain ⟨i, hi, rfl⟩ := List.getElem_of_mem hx
    rw [seg_len hf ht] at hi
    have h5 := seg_getD hf ht hi
    rw [List.getD_eq_getElem?_getD, List.getElem?_eq_getElem (by rw [seg_len hf ht]; exact hi)] at h5
    simp only [Option.getD_some] at h5
    exact ⟨f + i, by omega, by omega, by rw [← h5]; exact hp⟩
  · rintro ⟨i, h1, h2, hp⟩
    have h5 := seg_getD hf ht (i := i - f) (by omega)
    have h6 : i - f < (P.seg l f t).length := by rw [seg_len hf ht]; omega
    rw [List.getD_eq_getElem?_getD, List.getElem?_eq_getElem h6, show f + (i - f) = i by omega] at h5
    simp only [Option.getD_some] at h5
    exact ⟨_, List.getElem_mem h6, by rw [h5]; exact hp⟩
theorem seg_any_false {l : List Int} {f t : Nat} {p : Int → Bool} (hf : f ≤ t) (ht : t ≤ l.length) : (P.seg l f t).any p = false ↔ ∀ i, f ≤ i → i < t → p (l.getD i 0) = false := by
  rw [← Bool.not_eq_true, seg_any hf ht]
  constructor
  · intro h i h1 h2
    cases hp : p (l.getD i 0)
    · rfl
    · exact absurd ⟨i, h1, h2, hp⟩ h
  · rintro h ⟨i, h1, h2, hp⟩
    rw [h i h1 h2] at hp
    cases hp

theorem moreL_len (l : List Int) (f t : Nat) (n : Int) : (P.moreL l f t n).length = l.length := by simp [P.moreL]
theorem moreL_getD {l : List Int} {f t : Nat} {n : Int} {i : Nat} (hi : i < l.length) : (P.moreL l f t n).getD i 0 = P.moreAt l f t n i := by simp [P.moreL, List.getD_eq_getElem?_getD, hi]
theorem getD_in {l : List Int} (hx : ∀ x ∈ l, 0 ≤ x ∧ x ≤ 60) (i : Nat) : 0 ≤ l.getD i 0 ∧ l.getD i 0 ≤ 60 := by
  rw [List.getD_eq_getElem?_getD]
  by_cases hi : i < l.length
  · rw [List.getElem?_eq_getElem hi]; exact hx _ (List.getElem_mem hi)
  · rw [List.getElem?_eq_none (by omega)]; simp

theorem okL_more {l : List Int} {f t : Nat} {n : Int} (hf : f ≤ t) (ht : t ≤ l.length) (hx : ∀ x ∈ l, 0 ≤ x ∧ x ≤ 60) : P.okL (P.moreL l f t n) = true ↔ ∀ i, f ≤ i → i < t → 0 ≤ l.getD i 0 + n ∧ l.getD i 0 + n ≤ 60 := by
  unfold P.okL P.moreL
  rw [List.all_eq_true]
  constructor
  · intro h i h1 h2
    have := h (P.moreAt l f t n i) (List.mem_map.2 ⟨i, by simp; omega, rfl⟩)
    rw [P.moreAt, if_pos ⟨h1, h2⟩] at this
    simpa [P.btw] using this
  · intro h x hm
    obtain ⟨i, hi, rfl⟩ := List.mem_map.1 hm
    rw [P.moreAt]
    by_cases e : f ≤ i ∧ i < t
    · rw [if_pos e]
      have := h i e.1 e.2
      simpa [P.btw] using this
    · rw [if_neg e]
      have := getD_in hx i
      simpa [P.btw] using this
theorem ok_add {l : List Int} {f t : Nat} {m : Int} (hf : f ≤ t) (ht : t ≤ l.length) (hx : ∀ x ∈ l, 0 ≤ x ∧ x ≤ 60) (hm : 0 ≤ m ∧ m ≤ 60) : P.okL (P.moreL l f t m) = !(P.seg l f t).any (fun x => decide (60 < x + m)) := by
  cases h : (P.seg l f t).any (fun x => decide (60 < x + m))
  · rw [seg_any_false hf ht] at h
    rw [Bool.not_false, okL_more hf ht hx]
    intro i h1 h2
    have h3 := h i h1 h2
    have h4 := getD_in hx i
    simp at h3
    have h5 : l[i]?.getD 0 = l.getD i 0 := (List.getD_eq_getElem?_getD ..).symm
    omega
  · rw [seg_any hf ht] at h
    obtain ⟨i, h1, h2, h3⟩ := h
    rw [Bool.not_true]
    cases h6 : P.okL (P.moreL l f t m)
    · rfl
    · rw [okL_more hf ht hx] at h6
      have h7 := h6 i h1 h2
      have h8 := of_decide_eq_true h3
      omega
theorem ok_take {l : List Int} {f t : Nat} {m : Int} (hf : f ≤ t) (ht : t ≤ l.length) (hx : ∀ x ∈ l, 0 ≤ x ∧ x ≤ 60) (hm : 0 ≤ m ∧ m ≤ 60) : P.okL (P.moreL l f t (-m)) = !(P.seg l f t).any (fun x => decide (x < m)) := by
  cases h : (P.seg l f t).any (fun x => decide (x < m))
  · rw [seg_any_false hf ht] at h
    rw [Bool.not_false, okL_more hf ht hx]
    intro i h1 h2
    have h3 := of_decide_eq_false (h i h1 h2)
    have h4 := getD_in hx i
    omega
  · rw [seg_any hf ht] at h
    obtain ⟨i, h1, h2, h3⟩ := h
    rw [Bool.not_true]
    cases h6 : P.okL (P.moreL l f t (-m))
    · rfl
    · rw [okL_more hf ht hx] at h6
      have h7 := h6 i h1 h2
      have h8 := of_decide_eq_true h3
      omega

theorem fits_peak {l : List Int} {n f t m k : Int} {p : Int} {a : Nat} (h : P.fitsE l n f t m k = 0) (hp : PeakAt l f.toNat t.toNat p a) : P.fitsB l n f t m k = decide (p + m ≤ k) := by
  have h0 : P.cntA l n f t m = 0 := by
    unfold P.fitsE at h
    split at h
    · assumption
    · contradiction
  obtain ⟨h1, hm⟩ := cntA_zero h0
  obtain ⟨hln, n1, n7, hx, f0, ft, tn, _⟩ := cntB_zero h1
  rw [P.fitsB, h]
  simp only [decide_true, Bool.true_and]
  cases h2 : (P.seg l f.toNat t.toNat).any (fun x => decide (k < x + m))
  · rw [seg_any_false (by omega) (by omega)] at h2
    have h3 := of_decide_eq_false (h2 a hp.lo hp.hi)
    have := hp.is
    symm
    rw [Bool.not_false, decide_eq_true_iff]
    omega
  · rw [seg_any (by omega) (by omega)] at h2
    obtain ⟨i, h3, h4, h5⟩ := h2
    have h6 := of_decide_eq_true h5
    have := hp.most i h3 h4
    symm
    rw [Bool.not_true, decide_eq_false_iff_not]
    omega

theorem cntE_mk {l : List Int} {n : Int} (h1 : (l.length : Int) = n) (h2 : 1 ≤ n) (h3 : n ≤ 7) (h4 : ∀ x ∈ l, 0 ≤ x ∧ x ≤ 60) : P.cntE l n = 0 := by
  have hs : P.sails n = true := by simp [P.sails]; omega
  rw [P.cntE, if_pos hs, if_pos h1, if_neg]
  rw [Bool.not_eq_true, List.any_eq_false]
  intro x hx
  have := h4 x hx
  simp [P.btw]
  omega

theorem count_back {l : List Int} {n f t m : Int} (h : P.addCE l n f t m = 0) : P.takeCE (P.addCL l n f t m) n f t m = 0 ∧ P.takeCL (P.addCL l n f t m) n f t m = l ∧ P.cntE (P.addCL l n f t m) n = 0 := by
  have hL : P.addCL l n f t m = P.moreL l f.toNat t.toNat m := by rw [P.addCL, if_pos h]
  have h0 : P.cntA l n f t m = 0 := by
    unfold P.addCE at h
    split at h
    · assumption
    · contradiction
  have hseg : (P.seg l f.toNat t.toNat).any (fun x => decide (60 < x + m)) = false := by
    rw [P.addCE, if_pos h0] at h
    split at h
    · omega
    · rename_i h1; simpa using h1
  obtain ⟨h1, m0, m60⟩ := cntA_zero h0
  obtain ⟨hln, n1, n7, hx, f0, ft, tn, _⟩ := cntB_zero h1
  have hok := ok_add (f := f.toNat) (t := t.toNat) (by omega) (by omega) hx ⟨m0, m60⟩
  rw [hseg, Bool.not_false] at hok
  have hx2 : ∀ x ∈ P.moreL l f.toNat t.toNat m, 0 ≤ x ∧ x ≤ 60 := by
    intro x hm
    have := List.all_eq_true.1 hok x hm
    simpa [P.btw] using this
  have hE : P.cntE (P.moreL l f.toNat t.toNat m) n = 0 := cntE_mk (by rw [moreL_len]; exact hln) n1 n7 hx2
  have hchk : P.chk f t n = 0 := by
    rw [P.cntB] at h1
    split at h1
    · exact h1
    · contradiction
  have hA : P.cntA (P.moreL l f.toNat t.toNat m) n f t m = 0 := by
    rw [P.cntA, P.cntB, if_pos hE, if_pos hchk, if_pos (by simp [P.btw]; omega)]
  have hT : P.takeCE (P.moreL l f.toNat t.toNat m) n f t m = 0 := by
    rw [P.takeCE, if_pos hA, if_neg]
    rw [Bool.not_eq_true, seg_any_false (by omega) (by rw [moreL_len]; omega)]
    intro i h2 h3
    rw [moreL_getD (by omega), P.moreAt, if_pos ⟨h2, h3⟩, decide_eq_false_iff_not]
    have := getD_in hx i
    omega
  rw [hL]
  refine ⟨hT, ?_, hE⟩
  rw [P.takeCL, if_pos hT]
  apply List.ext_getElem?
  intro i
  by_cases hi : i < l.length
  · have h4 : i < (P.moreL l f.toNat t.toNat m).length := by rw [moreL_len]; exact hi
    have h5 : (P.moreL (P.moreL l f.toNat t.toNat m) f.toNat t.toNat (-m))[i]? = some (P.moreAt (P.moreL l f.toNat t.toNat m) f.toNat t.toNat (-m) i) := by
      rw [P.moreL, List.getElem?_map, List.getElem?_range h4]; rfl
    rw [h5, List.getElem?_eq_getElem hi, P.moreAt, moreL_getD hi, P.moreAt]
    have h6 : l.getD i 0 = l[i] := by rw [List.getD_eq_getElem?_getD, List.getElem?_eq_getElem hi]; rfl
    rw [h6]
    by_cases e : f.toNat ≤ i ∧ i < t.toNat
    · rw [if_pos e, if_pos e]; congr 1; omega
    · rw [if_neg e, if_neg e]
  · rw [List.getElem?_eq_none (by rw [moreL_len, moreL_len]; omega), List.getElem?_eq_none (by omega)]

theorem fitsE_zero {l : List Int} {n f t m k : Int} (h : P.fitsE l n f t m k = 0) : P.cntA l n f t m = 0 ∧ P.cntB l n f t = 0 := by
  have h0 : P.cntA l n f t m = 0 := by
    unfold P.fitsE at h
    split at h
    · assumption
    · contradiction
  exact ⟨h0, (cntA_zero h0).1⟩

set_option maxHeartbeats 4000000 in
theorem countBack_walk (ao : Option Addr) (cap : Nat) (l : List Int) (n f t m k : Int) (W : World) (hl : IntsAt W ao cap l) :
    Calls Try.prog 4 #[.slice ao l.length cap, .int .i64 n, .agg #[.int .i64 f, .int .i64 t], .int .i64 m, .int .i64 k] W fun e w' => e = .returned (.bool true) ∧ Below W.heap.size W w' := by
  have hback := @count_back l n f t m
  have HBK : Aside (P.addCE l n f t m = 0 → _) := hback
  clear hback
  go_enter Try.func4, Try.ntmps4
  go_wp2_with fail
  refine (countBegun_any _).mono ?_
  rintro e w1 ⟨rfl, hb1⟩
  have hB1 : Below W.heap.size W w1 := bvia (by go_grown) hb1
  have c0 : w1.cell? ⟨W.heap.size, 0, none⟩ = some (.int .i64 f) := cellIn hb1 (by simp)
  have c1 : w1.cell? ⟨W.heap.size, 1, none⟩ = some (.int .i64 t) := cellIn hb1 (by simp)
  go_wp2_with fail
  refine (cntAdd_any _ _ l n f t m _ (SlAt.below RInt.mono hl hB1)).mono ?_
  rintro e w2 ⟨v2, rfl, own2, hb2⟩
  obtain ⟨ao2, cap2, rfl, a2⟩ := OwnI.at own2
  have hB2 := bvia hB1 hb2
  have d0 := cellIn hb2 c0
  have d1 := cellIn hb2 c1
  clear own2
  cases hz : (P.addCE l n f t m == 0)
  · go_wp2_with fail
    refine (cntFits_any _ _ l n f t m k _ (SlAt.below RInt.mono hl hB2)).mono ?_
    rintro e w5 ⟨rfl, hb5⟩
    have hB5 := bvia hB2 hb5
    have y0 := cellIn hb5 d0
    have y1 := cellIn hb5 d1
    cases hz5 : (P.fitsE l n f t m k != 0)
    · have h5 : P.fitsE l n f t m k = 0 := by simpa using hz5
      have hcb := (fitsE_zero h5).2
      obtain ⟨hln, n1, n7, hx, f0, ft, tn, _⟩ := cntB_zero hcb
      have hmk := (cntA_zero (fitsE_zero h5).1).2
      have H5 : Aside (P.fitsE l n f t m k = 0 ∧ P.cntB l n f t = 0) := ⟨h5, hcb⟩
      have HX : Aside (∀ x ∈ l, 0 ≤ x ∧ x ≤ 60) := hx
      clear h5 hcb hx
      go_wp2_with fail
      refine (cntPeak_any _ _ l n f t _ (SlAt.below RInt.mono hl hB5)).mono ?_
      rintro e w6 ⟨p, a, rfl, _, hpk, hb6⟩
      have hp := hpk H5.out.2
      rw [fits_peak H5.out.1 hp, H5.out.2]
      have hB6 := bvia hB5 hb6
      have z0 := cellIn hb6 y0
      have z1 := cellIn hb6 y1
      have a0 := hp.lo
      have a1 := hp.hi
      have a2 := hp.is
      have hal : a < l.length := by omega
      obtain ⟨b, off, x, rfl, hbw, hd, hc0⟩ := hl.get hB6 a hal
      have hxk := getI hal hd
      have hxp : x = p := by rw [← a2, List.getD_eq_getElem?_getD, List.getElem?_eq_getElem hal]; exact hxk.symm
      have hxb := HX.out x (by rw [← hxk]; exact List.getElem_mem hal)
      subst hxp
      have hle := hl.le
      have hmx := hl.max
      unfold maxLen at hmx
      have i1 : f ≤ (a : Int) := by omega
      have i2 : (a : Int) < t := by omega
      have i3 : (a : Int) < l.length := by omega
      have i4 : (0 : Int) ≤ a := by omega
      clear hd hxk a2 hp hpk a0 a1
      go_wp2
      go_ret
      exact ⟨by simp [i1, i2], hB6⟩
    · have h5 : P.fitsB l n f t m k = false := by rw [P.fitsB]; simp at hz5; simp [hz5]
      rw [h5]
      go_wp2
      go_ret
      exact ⟨rfl, hB5⟩

  · obtain ⟨hk1, hk2, hk3⟩ := HBK.out (by simpa using hz)
    go_wp2_with fail
    refine (cntTake_any _ _ _ n f t m _ a2).mono ?_
    rintro e w3 ⟨v3, rfl, own3, hb3⟩
    rw [hk2] at own3
    rw [hk1]
    obtain ⟨ao3, cap3, rfl, a3⟩ := OwnI.at own3
    have hB3 := bvia hB2 hb3
    have e0 := cellIn hb3 d0
    have e1 := cellIn hb3 d1
    clear own3 hk1 hk2
    go_wp2_with fail
    refine (sameInts_any _ _ _ _ l l _ a3 (SlAt.below RInt.mono hl hB3)).mono ?_
    rintro e w4 ⟨rfl, hb4⟩
    rw [show decide (l = l) = true by simp]
    have hB4 := bvia hB3 hb4
    go_wp2_with fail
    refine (cntCheck_any _ _ _ n _ (SlAt.below RInt.mono a2 (bvia hb3 hb4))).mono ?_
    rintro e w45 ⟨rfl, hb45⟩
    rw [hk3]
    have hB45 := bvia hB4 hb45
    have g0 := cellIn hb45 (cellIn hb4 e0)
    have g1 := cellIn hb45 (cellIn hb4 e1)
    clear hk3
    go_wp2_with fail
    refine (cntFits_any _ _ l n f t m k _ (SlAt.below RInt.mono hl hB45)).mono ?_
    rintro e w5 ⟨rfl, hb5⟩
    have hB5 := bvia hB45 hb5
    have y0 := cellIn hb5 g0
    have y1 := cellIn hb5 g1
    cases hz5 : (P.fitsE l n f t m k != 0)
    · have h5 : P.fitsE l n f t m k = 0 := by simpa using hz5
      have hcb := (fitsE_zero h5).2
      obtain ⟨hln, n1, n7, hx, f0, ft, tn, _⟩ := cntB_zero hcb
      have hmk := (cntA_zero (fitsE_zero h5).1).2
      have H5 : Aside (P.fitsE l n f t m k = 0 ∧ P.cntB l n f t = 0) := ⟨h5, hcb⟩
      have HX : Aside (∀ x ∈ l, 0 ≤ x ∧ x ≤ 60) := hx
      clear h5 hcb hx
      go_wp2_with fail
      refine (cntPeak_any _ _ l n f t _ (SlAt.below RInt.mono hl hB5)).mono ?_
      rintro e w6 ⟨p, a, rfl, _, hpk, hb6⟩
      have hp := hpk H5.out.2
      rw [fits_peak H5.out.1 hp, H5.out.2]
      have hB6 := bvia hB5 hb6
      have z0 := cellIn hb6 y0
      have z1 := cellIn hb6 y1
      have a0 := hp.lo
      have a1 := hp.hi
      have a2 := hp.is
      have hal : a < l.length := by omega
      obtain ⟨b, off, x, rfl, hbw, hd, hc0⟩ := hl.get hB6 a hal
      have hxk := getI hal hd
      have hxp : x = p := by rw [← a2, List.getD_eq_getElem?_getD, List.getElem?_eq_getElem hal]; exact hxk.symm
      have hxb := HX.out x (by rw [← hxk]; exact List.getElem_mem hal)
      subst hxp
      have hle := hl.le
      have hmx := hl.max
      unfold maxLen at hmx
      have i1 : f ≤ (a : Int) := by omega
      have i2 : (a : Int) < t := by omega
      have i3 : (a : Int) < l.length := by omega
      have i4 : (0 : Int) ≤ a := by omega
      clear hd hxk a2 hp hpk a0 a1
      go_wp2
      go_ret
      exact ⟨by simp [i1, i2], hB6⟩
    · have h5 : P.fitsB l n f t m k = false := by rw [P.fitsB]; simp at hz5; simp [hz5]
      rw [h5]
      go_wp2
      go_ret
      exact ⟨rfl, hB5⟩

end Go.Proofs.Ytcifdkggigfnlab
