import Derived.Test.YtpjfpgimpgmhcadGreatMaA
set_option maxRecDepth 10000
/- Walks of Add, Take, Fits, Peak of package count. -/
namespace Go.Proofs.YtpjfpgimpgmhcadGreat.Ma
open Go.RowKit
set_option linter.unusedSimpArgs false
set_option linter.unusedVariables false

def P.addCE (l : List Int) (n f t m : Int) : Int := if P.cntA l n f t m = 0 then (if (P.seg l f.toNat t.toNat).any (fun x => decide (60 < x + m)) = true then 2 else 0) else P.cntA l n f t m
def P.addCL (l : List Int) (n f t m : Int) : List Int := if P.addCE l n f t m = 0 then P.moreL l f.toNat t.toNat m else []
def P.takeCE (l : List Int) (n f t m : Int) : Int := if P.cntA l n f t m = 0 then (if (P.seg l f.toNat t.toNat).any (fun x => decide (x < m)) = true then 4 else 0) else P.cntA l n f t m
def P.takeCL (l : List Int) (n f t m : Int) : List Int := if P.takeCE l n f t m = 0 then P.moreL l f.toNat t.toNat (-m) else []
def P.fitsE (l : List Int) (n f t m k : Int) : Int := if P.cntA l n f t m = 0 then (if P.btw k 0 60 = true then 0 else 3) else P.cntA l n f t m
def P.fitsB (l : List Int) (n f t m k : Int) : Bool := decide (P.fitsE l n f t m k = 0) && !(P.seg l f.toNat t.toNat).any (fun x => decide (k < x + m))

theorem ret2_bi {a b : Bool} {c d : Int} (h : a = b) (h2 : c = d) : Ending.returned (.tuple #[.bool a, .int .i64 c]) = .returned (.tuple #[.bool b, .int .i64 d]) := by rw [h, h2]

/-- The greatest number of the legs from f to ahead of t; the first leg that has it. -/
structure PeakAt (l : List Int) (f t : Nat) (m : Int) (a : Nat) : Prop where
  lo : f ≤ a
  hi : a < t
  is : l.getD a 0 = m
  most : ∀ i, f ≤ i → i < t → l.getD i 0 ≤ m
  first : ∀ i, f ≤ i → i < a → l.getD i 0 < m
theorem PeakAt.one {l : List Int} {f t : Nat} {m m' : Int} {a a' : Nat} (h : PeakAt l f t m a) (h' : PeakAt l f t m' a') : m = m' ∧ a = a' := by
  have h1 := h.most a' h'.lo h'.hi
  have h2 := h'.most a h.lo h.hi
  rw [h'.is] at h1
  rw [h.is] at h2
  have e : m = m' := by omega
  subst e
  refine ⟨rfl, ?_⟩
  rcases Nat.lt_trichotomy a a' with h3 | h3 | h3
  · have := h'.first a h.lo h3
    have := h.is
    omega
  · exact h3
  · have := h.first a' h'.lo h3
    have := h'.is
    omega

theorem seg_getD {l : List Int} {f t i : Nat} (hf : f ≤ t) (ht : t ≤ l.length) (hi : i < t - f) : (P.seg l f t).getD i 0 = l.getD (f + i) 0 := by
  have h1 : f + i < l.length := by omega
  simp [P.seg, List.getD_eq_getElem?_getD, hi]

theorem ret3_iii {a b c a' b' c' : Int} (h1 : a = a') (h2 : b = b') (h3 : c = c') : Ending.returned (.tuple #[.int .i64 a, .int .i64 b, .int .i64 c]) = .returned (.tuple #[.int .i64 a', .int .i64 b', .int .i64 c']) := by rw [h1, h2, h3]

end Go.Proofs.YtpjfpgimpgmhcadGreat.Ma
/- Walks of the reference on counts: CheckMore, MoreOf, PeakOf; intsAre; countBegun. -/
namespace Go.Proofs.YtpjfpgimpgmhcadGreat.Ma
open Go.RowKit
set_option linter.unusedSimpArgs false
set_option linter.unusedVariables false

theorem ownI_far {w : World} {base b : Nat} {v : Value} {l : List Int} (h : OwnI w base v l) (hb : b < base) : some b ≠ v.ownBlock := fun e => by
  have := (h.lt b e.symm).1
  omega

def P.okL (l : List Int) : Bool := l.all (fun x => P.btw x 0 60)
theorem okL_snoc (l : List Int) (x : Int) : P.okL (l ++ [x]) = (P.okL l && P.btw x 0 60) := by simp [P.okL]
def P.moreTo (l : List Int) (f t : Nat) (n : Int) (k : Nat) : List Int := (List.range k).map (P.moreAt l f t n)
theorem moreTo_succ (l : List Int) (f t : Nat) (n : Int) (k : Nat) : P.moreTo l f t n (k + 1) = P.moreTo l f t n k ++ [P.moreAt l f t n k] := by simp [P.moreTo, List.range_succ]
theorem moreTo_len (l : List Int) (f t : Nat) (n : Int) (k : Nat) : (P.moreTo l f t n k).length = k := by simp [P.moreTo]

def P.wantI (z : Int) (b : List Int) : List Int := if z = 0 then b else []

set_option maxHeartbeats 1000000 in
theorem intsAre_any (ao bo : Option Addr) (ca cb : Nat) (a b : List Int) (e z : Int) (w : World) (ha : IntsAt w ao ca a) (hb : IntsAt w bo cb b) :
    Calls Tryz.prog 19 #[.slice ao a.length ca, .int .i64 e, .int .i64 z, .slice bo b.length cb] w fun r w' => r = .returned (.bool (decide (e = z) && decide (a = P.wantI z b))) ∧ Below w.heap.size w w' := by
  have hnil : IntsAt w none 0 [] := SlAt.nilOf w
  by_cases hz : z = 0
  · have hz' : (z != 0) = false := by simpa using hz
    by_cases he : e = z
    · have he' : (e == z) = true := by simpa using he
      have HR : Aside ((decide (e = z) && decide (a = P.wantI z b)) = decide (a = b)) := by show _ = _; rw [P.wantI, if_pos hz]; simp [he]
      clear hz he
      go_enter Tryz.func19, Tryz.ntmps19
      go_wp2_with (go_at_call 37; refine (sameInts_any _ _ _ _ a b _ ha hb).mono ?_; rintro e1 w1 ⟨rfl, hb1⟩)
      go_ret
      exact ⟨ret_bool HR.out.symm, hb1⟩
    · have he' : (e == z) = false := by simpa using he
      have HR : Aside ((decide (e = z) && decide (a = P.wantI z b)) = false) := by show _ = _; simp [he]
      clear hz he
      go_enter Tryz.func19, Tryz.ntmps19
      go_wp2
      go_ret
      exact ⟨ret_bool HR.out.symm, Below.refl _ _⟩
  · have hz' : (z != 0) = true := by simpa using hz
    by_cases he : e = z
    · have he' : (e == z) = true := by simpa using he
      have HR : Aside ((decide (e = z) && decide (a = P.wantI z b)) = decide (a = [])) := by show _ = _; rw [P.wantI, if_neg hz]; simp [he]
      clear hz he
      go_enter Tryz.func19, Tryz.ntmps19
      go_wp2_with (go_at_call 37; refine (sameInts_any _ _ _ _ a [] _ ha hnil).mono ?_; rintro e1 w1 ⟨rfl, hb1⟩)
      go_ret
      exact ⟨ret_bool HR.out.symm, hb1⟩
    · have he' : (e == z) = false := by simpa using he
      have HR : Aside ((decide (e = z) && decide (a = P.wantI z b)) = false) := by show _ = _; simp [he]
      clear hz he
      go_enter Tryz.func19, Tryz.ntmps19
      go_wp2
      go_ret
      exact ⟨ret_bool HR.out.symm, Below.refl _ _⟩

theorem ints3 (w : World) (a b c : Int) : IntsAt (w.alloc (.cells #[.int .i64 a, .int .i64 b, .int .i64 c] 3)) (some ⟨w.heap.size, 0, none⟩) 3 [a, b, c] := by
  have hl := heap_fold [.cells #[.int .i64 a, .int .i64 b, .int .i64 c] 3] w 0
  exact SlAt.ofBlock [[.int .i64 a], [.int .i64 b], [.int .i64 c]] (l := [a, b, c]) hl rfl rfl (fun i hi => by have hi : i < 3 := hi; match i, hi with | 0, _ => exact ⟨_, rfl, rfl⟩ | 1, _ => exact ⟨_, rfl, rfl⟩ | 2, _ => exact ⟨_, rfl, rfl⟩) (by simp) (by simp [maxLen])

end Go.Proofs.YtpjfpgimpgmhcadGreat.Ma