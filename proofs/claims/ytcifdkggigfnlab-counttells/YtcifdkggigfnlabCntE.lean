/- Walks of the reference on counts: CheckMore, MoreOf, PeakOf; intsAre; countBegun. -/
import Derived.Test.YtcifdkggigfnlabCntD
namespace Go.Proofs.Ytcifdkggigfnlab
open Go.RowKit
set_option linter.unusedSimpArgs false
set_option linter.unusedVariables false

set_option maxHeartbeats 1000000 in
theorem checkMore_any (ao : Option Addr) (cap : Nat) (l : List Int) (n f t m : Int) (w : World) (hl : IntsAt w ao cap l) :
    Calls Try.prog 13 #[.slice ao l.length cap, .int .i64 n, .agg #[.int .i64 f, .int .i64 t], .int .i64 m] w fun e w' => e = .returned (.int .i64 (P.cntA l n f t m)) ∧ Below w.heap.size w w' := by
  by_cases h1 : P.cntE l n = 0
  · have h1' : (P.cntE l n == 0) = true := by simpa using h1
    have hB : P.cntB l n f t = P.chk f t n := by rw [P.cntB, if_pos h1]
    by_cases h2 : P.chk f t n = 0
    · have h2' : (P.chk f t n == 0) = true := by simpa using h2
      cases hb : P.btw m 0 60
      · have HE : Aside (P.cntA l n f t m = 3) := by show _ = _; rw [P.cntA, hB, if_pos h2, hb]; rfl
        clear hB h1 h2
        go_enter Try.func13, Try.ntmps13
        go_wp2_with (first
          | (go_at_call 18; refine (refCount_any _ _ _ _ _ (SlAt.below RInt.mono hl (by go_grown))).mono ?_; rintro e w1 ⟨rfl, hb1⟩; have c0 : w1.cell? ⟨w.heap.size, 0, none⟩ = some (.int .i64 f) := cellIn hb1 (by simp); have c1 : w1.cell? ⟨w.heap.size, 1, none⟩ = some (.int .i64 t) := cellIn hb1 (by simp))
          | (go_at_call 39; refine (checkSpan_any _ _ _ _).mono ?_; rintro e w2 ⟨rfl, hb2⟩)
          | (go_at_call 40; refine (between_any _ _ _ _).mono ?_; rintro e w3 ⟨rfl, rfl⟩; rw [hb]))
        go_ret
        exact ⟨ret_int HE.out.symm, bvia (bvia (by go_grown) hb1) hb2⟩
      · have HE : Aside (P.cntA l n f t m = P.chk f t n) := by show _ = _; rw [P.cntA, hB, if_pos h2, hb, h2]; rfl
        clear hB h1 h2
        go_enter Try.func13, Try.ntmps13
        go_wp2_with (first
          | (go_at_call 18; refine (refCount_any _ _ _ _ _ (SlAt.below RInt.mono hl (by go_grown))).mono ?_; rintro e w1 ⟨rfl, hb1⟩; have c0 : w1.cell? ⟨w.heap.size, 0, none⟩ = some (.int .i64 f) := cellIn hb1 (by simp); have c1 : w1.cell? ⟨w.heap.size, 1, none⟩ = some (.int .i64 t) := cellIn hb1 (by simp))
          | (go_at_call 39; refine (checkSpan_any _ _ _ _).mono ?_; rintro e w2 ⟨rfl, hb2⟩)
          | (go_at_call 40; refine (between_any _ _ _ _).mono ?_; rintro e w3 ⟨rfl, rfl⟩; rw [hb]))
        go_ret
        exact ⟨ret_int HE.out.symm, bvia (bvia (by go_grown) hb1) hb2⟩
    · have h2' : (P.chk f t n == 0) = false := by simpa using h2
      have HE : Aside (P.cntA l n f t m = P.chk f t n) := by show _ = _; rw [P.cntA, hB, if_neg h2]
      clear hB h1
      go_enter Try.func13, Try.ntmps13
      go_wp2_with (first
        | (go_at_call 18; refine (refCount_any _ _ _ _ _ (SlAt.below RInt.mono hl (by go_grown))).mono ?_; rintro e w1 ⟨rfl, hb1⟩; have c0 : w1.cell? ⟨w.heap.size, 0, none⟩ = some (.int .i64 f) := cellIn hb1 (by simp); have c1 : w1.cell? ⟨w.heap.size, 1, none⟩ = some (.int .i64 t) := cellIn hb1 (by simp))
        | (go_at_call 39; refine (checkSpan_any _ _ _ _).mono ?_; rintro e w2 ⟨rfl, hb2⟩))
      go_ret
      exact ⟨ret_int HE.out.symm, bvia (bvia (by go_grown) hb1) hb2⟩
  · have h1' : (P.cntE l n == 0) = false := by simpa using h1
    have HE : Aside (P.cntA l n f t m = P.cntE l n) := by
      have hB : P.cntB l n f t = P.cntE l n := by rw [P.cntB, if_neg h1]
      show _ = _; rw [P.cntA, hB, if_neg h1]
    go_enter Try.func13, Try.ntmps13
    go_wp2_with (go_at_call 18; refine (refCount_any _ _ _ _ _ (SlAt.below RInt.mono hl (by go_grown))).mono ?_; rintro e w1 ⟨rfl, hb1⟩)
    go_ret
    exact ⟨ret_int HE.out.symm, bvia (by go_grown) hb1⟩

theorem ownI_far {w : World} {base b : Nat} {v : Value} {l : List Int} (h : OwnI w base v l) (hb : b < base) : some b ≠ v.ownBlock := fun e => by
  have := (h.lt b e.symm).1
  omega

def P.okL (l : List Int) : Bool := l.all (fun x => P.btw x 0 60)
theorem okL_snoc (l : List Int) (x : Int) : P.okL (l ++ [x]) = (P.okL l && P.btw x 0 60) := by simp [P.okL]
def P.moreTo (l : List Int) (f t : Nat) (n : Int) (k : Nat) : List Int := (List.range k).map (P.moreAt l f t n)
theorem moreTo_succ (l : List Int) (f t : Nat) (n : Int) (k : Nat) : P.moreTo l f t n (k + 1) = P.moreTo l f t n k ++ [P.moreAt l f t n k] := by simp [P.moreTo, List.range_succ]
theorem moreTo_len (l : List Int) (f t : Nat) (n : Int) (k : Nat) : (P.moreTo l f t n k).length = k := by simp [P.moreTo]

set_option maxHeartbeats 2000000 in
theorem moreOf_any (ao : Option Addr) (cap : Nat) (l : List Int) (f t : Nat) (n : Int) (w : World) (hl : IntsAt w ao cap l) (hf : f < t) (ht : t ≤ l.length) (hlen : l.length ≤ 7) (hx : ∀ x ∈ l, 0 ≤ x ∧ x ≤ 60) (hn : -60 ≤ n ∧ n ≤ 60) :
    Calls Try.prog 14 #[.slice ao l.length cap, .agg #[.int .i64 f, .int .i64 t], .int .i64 n] w fun e w' => ∃ v', e = .returned (.tuple #[v', .bool (P.okL (P.moreL l f t n))]) ∧ OwnI w' w.heap.size v' (P.moreL l f t n) ∧ Below w.heap.size w w' := by
  have hle := hl.le
  have hmx := hl.max
  unfold maxLen at hmx
  have HX : Aside (∀ x ∈ l, 0 ≤ x ∧ x ≤ 60) := hx
  clear hx
  go_enter Try.func14, Try.ntmps14
  go_wp2
  go_loopg [8, 9, 10] l.length (fun g v ok i wr => ∃ (k : Nat), k ≤ l.length ∧ g = l.length - k ∧ i = .int .i64 k ∧ ok = .bool (P.okL (P.moreTo l f t n k)) ∧ OwnI wr (w.heap.size + 1) v (P.moreTo l f t n k) ∧ wr.cell? ⟨w.heap.size, 0, none⟩ = some (.int .i64 f) ∧ wr.cell? ⟨w.heap.size, 1, none⟩ = some (.int .i64 t) ∧ w.heap.size + 1 ≤ wr.heap.size ∧ Below w.heap.size w wr)
  case atStart => exact ⟨0, Nat.zero_le _, rfl, rfl, rfl, World.ownsRow_nil _ _ _ _, by simp, by simp, by simp, by go_grown⟩
  case round =>
    obtain ⟨k, hk, rfl, rfl, rfl, hown, hx0, hx1, hsz, hB⟩ := hrel
    have hBs := hB.size
    by_cases hlt : k < l.length
    · obtain ⟨b, off, x, rfl, hbw, hd, hc0⟩ := hl.get hB k hlt
      have hxk := getI hlt hd
      have hxb := HX.out x (by rw [← hxk]; exact List.getElem_mem hlt)
      have hgd : l.getD k 0 = x := by rw [List.getD_eq_getElem?_getD, List.getElem?_eq_getElem hlt]; exact hxk
      clear hd hxk
      have hml := moreTo_len l f t n k
      have hsucc := moreTo_succ l f t n k
      have hok := okL_snoc (P.moreTo l f t n k) (P.moreAt l f t n k)
      rw [← hsucc] at hok
      have HS : Aside (P.moreTo l f t n (k + 1) = P.moreTo l f t n k ++ [P.moreAt l f t n k]) := hsucc
      have HK : Aside (P.okL (P.moreTo l f t n (k + 1)) = (P.okL (P.moreTo l f t n k) && P.btw (P.moreAt l f t n k) 0 60)) := hok
      clear hsucc hok
      have HM : Aside (∀ b, P.btw k f ((t : Int) - 1) = b → P.moreAt l f t n k = if b = true then x + n else x) := by
        intro b hb
        subst hb
        rw [P.moreAt, hgd]
        by_cases e : f ≤ k ∧ k < t
        · rw [if_pos e, if_pos (by simp [P.btw]; omega)]
        · rw [if_neg e, if_neg (by simp [P.btw]; omega)]
      clear hgd
      cases hin : P.btw k f ((t : Int) - 1)
      · have hMk := HM.out _ hin
        simp only [Bool.false_eq_true, if_false] at hMk
        rw [hMk] at HS HK
        clear HM hMk
        generalize P.okL (P.moreTo l f t n k) = o at HK ⊢
        generalize P.moreTo l f t n k = acc at HS hown hml ⊢
        cases o <;> cases hbx : P.btw x 0 60
        all_goals
          rw [hbx] at HK
          simp only [Bool.and_true, Bool.and_false, Bool.true_and, Bool.false_and, Bool.and_self] at HK
          go_wp2_with (first
            | (go_at_call 40; refine (between_any _ _ _ _).mono ?_; rintro e w' ⟨rfl, rfl⟩; first | rw [hin] | rw [hbx])
            | (at_builtin; refine wpList_append_int rfl (.tmp 37) (.tmp 39) rfl (w.heap.size + 1) _ acc x rfl hown _ rfl rfl hsz (by omega) ?_; intro v2 w2 hown2 hgr2))
          go_roundg (l.length - (k + 1))
          case measure => omega
          case rel =>
            exact ⟨k + 1, by omega, rfl, by go_num, by rw [HK.out], by rw [HS.out]; exact hown2, hgr2.cell hx0 (ownI_far hown (Nat.lt_succ_self _)), hgr2.cell hx1 (ownI_far hown (Nat.lt_succ_self _)), by have := hgr2.size; omega, grownI_below hB hown (by omega) hgr2⟩
      · have hMk := HM.out _ hin
        simp only [if_true] at hMk
        rw [hMk] at HS HK
        clear HM hMk
        generalize P.okL (P.moreTo l f t n k) = o at HK ⊢
        generalize P.moreTo l f t n k = acc at HS hown hml ⊢
        cases o <;> cases hbx : P.btw (x + n) 0 60
        all_goals
          rw [hbx] at HK
          simp only [Bool.and_true, Bool.and_false, Bool.true_and, Bool.false_and, Bool.and_self] at HK
          go_wp2_with (first
            | (go_at_call 40; refine (between_any _ _ _ _).mono ?_; rintro e w' ⟨rfl, rfl⟩; first | rw [hin] | rw [hbx])
            | (at_builtin; refine wpList_append_int rfl (.tmp 37) (.tmp 39) rfl (w.heap.size + 1) _ acc (x + n) rfl hown _ rfl rfl hsz (by omega) ?_; intro v2 w2 hown2 hgr2))
          go_roundg (l.length - (k + 1))
          case measure => omega
          case rel =>
            exact ⟨k + 1, by omega, rfl, by go_num, by rw [HK.out], by rw [HS.out]; exact hown2, hgr2.cell hx0 (ownI_far hown (Nat.lt_succ_self _)), hgr2.cell hx1 (ownI_far hown (Nat.lt_succ_self _)), by have := hgr2.size; omega, grownI_below hB hown (by omega) hgr2⟩
    · obtain rfl : k = l.length := by omega
      go_wp2
      go_ret2
      exact ⟨_, rfl, World.ownsRow.mono hown (by omega), hB⟩

set_option maxHeartbeats 2000000 in
theorem peakOf_any (ao : Option Addr) (cap : Nat) (l : List Int) (f t : Nat) (w : World) (hl : IntsAt w ao cap l) (hf : f < t) (ht : t ≤ l.length) (hlen : l.length ≤ 7) (hx : ∀ x ∈ l, 0 ≤ x ∧ x ≤ 60) :
    Calls Try.prog 15 #[.slice ao l.length cap, .agg #[.int .i64 f, .int .i64 t]] w fun e w' => ∃ (m : Int) (a : Nat), e = .returned (.tuple #[.int .i64 m, .int .i64 a]) ∧ PeakAt l f t m a ∧ Below w.heap.size w w' := by
  have hle := hl.le
  have hmx := hl.max
  unfold maxLen at hmx
  have HX : Aside (∀ x ∈ l, 0 ≤ x ∧ x ≤ 60) := hx
  clear hx
  go_enter Try.func15, Try.ntmps15
  go_wp2
  go_loopg [6, 7, 8] (t - f) (fun g bv av i wr => ∃ (k : Nat) (m : Int) (a : Nat), f ≤ k ∧ k ≤ t ∧ g = t - k ∧ i = .int .i64 k ∧ bv = .int .i64 m ∧ av = .int .i64 a ∧ (k = f → m = -1) ∧ (f < k → PeakAt l f k m a) ∧ wr = w.alloc (.cells #[.int .i64 f, .int .i64 t] 24))
  case atStart => exact ⟨f, -1, 0, Nat.le_refl _, by omega, rfl, rfl, rfl, rfl, fun _ => rfl, fun h => by omega, rfl⟩
  case round =>
    obtain ⟨k, m, a, hfk, hkt, rfl, rfl, rfl, rfl, hm1, hpk, rfl⟩ := hrel
    have HQ : Aside ((k = f → m = -1) ∧ (f < k → PeakAt l f k m a)) := ⟨hm1, hpk⟩
    clear hm1 hpk
    by_cases hlt : k < t
    · obtain ⟨b, off, x, rfl, hbw, hd, hc0⟩ := hl.get (w' := w.alloc (.cells #[.int .i64 f, .int .i64 t] 24)) (by go_grown) k (by omega)
      have hxk := getI (by omega) hd
      have hxb := HX.out x (by rw [← hxk]; exact List.getElem_mem _)
      have hgd : Aside (l.getD k 0 = x) := by show _ = _; rw [List.getD_eq_getElem?_getD, List.getElem?_eq_getElem (by omega)]; exact hxk
      clear hd hxk
      go_wp2
      · go_roundg (t - (k + 1))
        case measure => omega
        case rel =>
          refine ⟨k + 1, x, k, by omega, by omega, rfl, by go_num, rfl, rfl, fun h => by omega, fun _ => ⟨hfk, by omega, hgd.out, fun i h1 h2 => ?_, fun i h1 h2 => ?_⟩, rfl⟩
          · by_cases e : i = k
            · rw [e, hgd.out]; exact Int.le_refl _
            · have := (HQ.out.2 (by omega)).most i h1 (by omega); omega
          · have := (HQ.out.2 (by omega)).most i h1 (by omega); omega
      · rename_i hcmp
        have hcmp' : ¬ m < x := by simpa using hcmp
        go_roundg (t - (k + 1))
        case measure => omega
        case rel =>
          have hk0 : k ≠ f := fun e => by have := HQ.out.1 e; omega
          have hp := HQ.out.2 (by omega)
          refine ⟨k + 1, m, a, by omega, by omega, rfl, by go_num, rfl, rfl, fun h => by omega, fun _ => ⟨hp.lo, by have := hp.hi; omega, hp.is, fun i h1 h2 => ?_, hp.first⟩, rfl⟩
          by_cases e : i = k
          · rw [e, hgd.out]; omega
          · exact hp.most i h1 (by omega)
    · obtain rfl : k = t := by omega
      go_wp2
      go_ret2
      exact ⟨m, a, rfl, HQ.out.2 hf, by go_grown⟩

def P.wantI (z : Int) (b : List Int) : List Int := if z = 0 then b else []

set_option maxHeartbeats 1000000 in
theorem intsAre_any (ao bo : Option Addr) (ca cb : Nat) (a b : List Int) (e z : Int) (w : World) (ha : IntsAt w ao ca a) (hb : IntsAt w bo cb b) :
    Calls Try.prog 19 #[.slice ao a.length ca, .int .i64 e, .int .i64 z, .slice bo b.length cb] w fun r w' => r = .returned (.bool (decide (e = z) && decide (a = P.wantI z b))) ∧ Below w.heap.size w w' := by
  have hnil : IntsAt w none 0 [] := SlAt.nilOf w
  by_cases hz : z = 0
  · have hz' : (z != 0) = false := by simpa using hz
    by_cases he : e = z
    · have he' : (e == z) = true := by simpa using he
      have HR : Aside ((decide (e = z) && decide (a = P.wantI z b)) = decide (a = b)) := by show _ = _; rw [P.wantI, if_pos hz]; simp [he]
      clear hz he
      go_enter Try.func19, Try.ntmps19
      go_wp2_with (go_at_call 20; refine (sameInts_any _ _ _ _ a b _ ha hb).mono ?_; rintro e1 w1 ⟨rfl, hb1⟩)
      go_ret
      exact ⟨ret_bool HR.out.symm, hb1⟩
    · have he' : (e == z) = false := by simpa using he
      have HR : Aside ((decide (e = z) && decide (a = P.wantI z b)) = false) := by show _ = _; simp [he]
      clear hz he
      go_enter Try.func19, Try.ntmps19
      go_wp2
      go_ret
      exact ⟨ret_bool HR.out.symm, Below.refl _ _⟩
  · have hz' : (z != 0) = true := by simpa using hz
    by_cases he : e = z
    · have he' : (e == z) = true := by simpa using he
      have HR : Aside ((decide (e = z) && decide (a = P.wantI z b)) = decide (a = [])) := by show _ = _; rw [P.wantI, if_neg hz]; simp [he]
      clear hz he
      go_enter Try.func19, Try.ntmps19
      go_wp2_with (go_at_call 20; refine (sameInts_any _ _ _ _ a [] _ ha hnil).mono ?_; rintro e1 w1 ⟨rfl, hb1⟩)
      go_ret
      exact ⟨ret_bool HR.out.symm, hb1⟩
    · have he' : (e == z) = false := by simpa using he
      have HR : Aside ((decide (e = z) && decide (a = P.wantI z b)) = false) := by show _ = _; simp [he]
      clear hz he
      go_enter Try.func19, Try.ntmps19
      go_wp2
      go_ret
      exact ⟨ret_bool HR.out.symm, Below.refl _ _⟩

theorem ints3 (w : World) (a b c : Int) : IntsAt (w.alloc (.cells #[.int .i64 a, .int .i64 b, .int .i64 c] 3)) (some ⟨w.heap.size, 0, none⟩) 3 [a, b, c] := by
  have hl := heap_fold [.cells #[.int .i64 a, .int .i64 b, .int .i64 c] 3] w 0
  exact SlAt.ofBlock [[.int .i64 a], [.int .i64 b], [.int .i64 c]] (l := [a, b, c]) hl rfl rfl (fun i hi => by have hi : i < 3 := hi; match i, hi with | 0, _ => exact ⟨_, rfl, rfl⟩ | 1, _ => exact ⟨_, rfl, rfl⟩ | 2, _ => exact ⟨_, rfl, rfl⟩) (by simp) (by simp [maxLen])

set_option maxHeartbeats 2000000 in
theorem countBegun_any (w : World) :
    Calls Try.prog 16 #[] w fun e w' => e = .returned (.bool true) ∧ Below w.heap.size w w' := by
  have a0 := ints3 w 1 4 2
  go_enter Try.func16, Try.ntmps16
  go_wp2_with fail
  refine (cntAdd_any _ _ [1, 4, 2] 3 1 3 2 _ a0).mono ?_
  rintro e w1 ⟨v1, rfl, own1, hb1⟩
  rw [show P.addCE [1, 4, 2] 3 1 3 2 = 0 by decide]
  rw [show P.addCL [1, 4, 2] 3 1 3 2 = [1, 6, 4] by decide] at own1
  obtain ⟨ao1, cap1, rfl, a1⟩ := OwnI.at own1
  go_wp2_with fail
  refine (cntTake_any _ _ [1, 6, 4] 3 1 3 2 _ a1).mono ?_
  rintro e w2 ⟨v2, rfl, own2, hb2⟩
  rw [show P.takeCE [1, 6, 4] 3 1 3 2 = 0 by decide]
  rw [show P.takeCL [1, 6, 4] 3 1 3 2 = [1, 4, 2] by decide] at own2
  obtain ⟨ao2, cap2, rfl, a2⟩ := OwnI.at own2
  go_wp2_with fail
  have hc2 := bvia hb1 hb2
  refine (cntFits_any _ _ [1, 4, 2] 3 0 2 2 5 _ (SlAt.below RInt.mono a0 hc2)).mono ?_
  rintro e w3 ⟨rfl, hb3⟩
  rw [show P.fitsB [1, 4, 2] 3 0 2 2 5 = false by decide, show P.fitsE [1, 4, 2] 3 0 2 2 5 = 0 by decide]
  have hc3 := bvia hc2 hb3
  go_wp2_with fail
  refine (cntPeak_any _ _ [1, 4, 2] 3 0 3 _ (SlAt.below RInt.mono a0 hc3)).mono ?_
  rintro e w4 ⟨m4, p4, rfl, _, hpk, hb4⟩
  have hk := hpk (by decide)
  clear hpk
  obtain ⟨rfl, rfl⟩ := hk.one (m' := 4) (a' := 1) ⟨by decide, by decide, by decide, (fun i _ h2 => by have h2 : i < 3 := h2; match i, h2 with | 0, _ => decide | 1, _ => decide | 2, _ => decide), (fun i _ h2 => by match i, h2 with | 0, _ => decide)⟩
  rw [show P.cntB [1, 4, 2] 3 0 3 = 0 by decide]
  clear hk
  have hc4 := bvia hc3 hb4
  go_wp2_with fail
  refine (cntCheck_any _ _ [1, 4, 2] 3 _ (SlAt.below RInt.mono a0 hc4)).mono ?_
  rintro e w5 ⟨rfl, hb5⟩
  rw [show P.cntE [1, 4, 2] 3 = 0 by decide]
  have hc5 := bvia hc4 hb5
  have hd5 : Below w1.heap.size w1 w5 := bvia (bvia (bvia hb2 hb3) hb4) hb5
  have he5 : Below w2.heap.size w2 w5 := bvia (bvia hb3 hb4) hb5
  go_wp2_with fail
  refine (sameInts_any _ _ _ _ [1, 6, 4] [1, 6, 4] _ (SlAt.below RInt.mono (SlAt.below RInt.mono a1 hd5) (by go_grown)) (ints3 w5 1 6 4)).mono ?_
  rintro e w6 ⟨rfl, hb6⟩
  have hc6 := bvia (bvia hc5 (show Below w5.heap.size w5 (w5.alloc (.cells #[.int .i64 1, .int .i64 6, .int .i64 4] 3)) by go_grown)) hb6
  have he6 := bvia (bvia he5 (show Below w5.heap.size w5 (w5.alloc (.cells #[.int .i64 1, .int .i64 6, .int .i64 4] 3)) by go_grown)) hb6
  go_wp2_with fail
  refine (sameInts_any _ _ _ _ [1, 4, 2] [1, 4, 2] _ (SlAt.below RInt.mono a2 he6) (SlAt.below RInt.mono a0 hc6)).mono ?_
  rintro e w7 ⟨rfl, hb7⟩
  go_wp2
  go_ret
  exact ⟨by simp, bvia (bvia (by go_grown) hc6) hb7⟩

end Go.Proofs.Ytcifdkggigfnlab
