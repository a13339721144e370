/- Walk of the law FareTells. -/
import Derived.Test.YtagjlckmemmflacFarI
import Derived.Test.YtagjlckmemmflacFarJ
namespace Go.Proofs.Ytagjlckmemmflac
open Go.RowKit
set_option linter.unusedSimpArgs false
set_option linter.unusedVariables false

set_option maxHeartbeats 20000000 in
set_option maxRecDepth 4000 in
theorem fareTells_walk (lo bo : Option Addr) (lc bc : Nat) (L : List (List Int)) (al th : Int) (B : List (Int × Int)) (dn c n k f t g p d : Int) (W : World) (hf : FareAt W lo bo lc bc L B) :
    Calls Try.prog 3 #[V.fare lo bo lc bc L al th B dn, .int .i64 c, .int .i64 n, .int .i64 k, .agg #[.int .i64 f, .int .i64 t], .int .i64 g, .int .i64 p, .int .i64 d] W fun e w' => e = .returned (.bool true) ∧ Below W.heap.size W w' := by
  go_enter Try.func3, Try.ntmps3
  go_wp2_with fail
  refine (price_any _ _ _ _ _ _ _ _ _ _ _ _ _ _ _ _ (hf.below (by go_grown))).mono ?_
  rintro e w1 ⟨rfl, hb⟩
  obtain ⟨q0, q1, q2, q3, q4⟩ : FBox w1 W.heap.size lo bo lc bc L al th B dn := ⟨cellIn hb (by simp), cellIn hb (by simp), cellIn hb (by simp), cellIn hb (by simp), cellIn hb (by simp)⟩
  obtain ⟨r0, r1⟩ : SBox w1 (W.heap.size + 1) f t := ⟨cellIn hb (by simp), cellIn hb (by simp)⟩
  have hB : Below W.heap.size W w1 := bvia (by go_grown) hb
  clear hb
  go_wp2_with fail
  refine (down_any _ _ _ _ _ _ _ _ _ _ _ _ _ (hf.below hB)).mono ?_
  rintro e w2 ⟨rfl, hb⟩
  replace ⟨q0, q1, q2, q3, q4⟩ := (FBox.mk q0 q1 q2 q3 q4).below hb
  replace ⟨r0, r1⟩ := (SBox.mk r0 r1).below hb
  replace hB := bvia hB hb
  clear hb
  go_wp2_with fail
  refine (penalty_any _ _ _ _ _ _ _ _ _ _ _ _ _ _ (hf.below hB)).mono ?_
  rintro e w3 ⟨rfl, hb⟩
  replace ⟨q0, q1, q2, q3, q4⟩ := (FBox.mk q0 q1 q2 q3 q4).below hb
  replace ⟨r0, r1⟩ := (SBox.mk r0 r1).below hb
  replace hB := bvia hB hb
  clear hb
  go_wp2_with fail
  refine (checkFares_any _ _ _ _ _ _ _ _ _ _ _ _ (hf.below hB)).mono ?_
  rintro e w4 ⟨rfl, hb⟩
  replace ⟨q0, q1, q2, q3, q4⟩ := (FBox.mk q0 q1 q2 q3 q4).below hb
  replace ⟨r0, r1⟩ := (SBox.mk r0 r1).below hb
  replace hB := bvia hB hb
  clear hb
  have HC : Aside (∀ w, FareAt w lo bo lc bc L B → Calls Try.prog 18 #[V.fare lo bo lc bc L al th B dn, .int .i64 c, .int .i64 n] w fun e w' => e = .returned (.int .i64 (P.fareE L al th B dn c n)) ∧ Below w.heap.size w w') := fun w h => fareCheck_any _ _ _ _ _ _ _ _ _ _ _ w h
  cases hz : (P.fareE L al th B dn c n == 0)
  · have hz' : P.fareE L al th B dn c n ≠ 0 := by simpa using hz
    have u1 : P.priceE L al th B dn c n k f t g = P.fareE L al th B dn c n := by rw [P.priceE, if_neg hz']
    have u2 : P.price L al th B dn c n k f t g = 0 := by rw [P.price, u1, if_neg hz']
    have v1 : P.fareP L al th B dn c n p = P.fareE L al th B dn c n := by rw [P.fareP, if_neg hz']
    have v2 : P.down L al th B dn c n p = 0 := by rw [P.down, v1, if_neg hz']
    have x1 : P.penE L al th B dn c n p d = P.fareE L al th B dn c n := by rw [P.penE, v1, if_neg hz']
    have x2 : P.pen L al th B dn c n p d = 0 := by rw [P.pen, x1, if_neg hz']
    rw [u1, u2, v1, v2, x1, x2]
    clear u1 u2 v1 v2 x1 x2 hz'
    generalize P.fareE L al th B dn c n = E at HC hz ⊢
    go_wp2_with (first
      | (go_at_call 17; refine (fareBegun_any _).mono ?_; rintro e w5 ⟨rfl, hb⟩; replace ⟨q0, q1, q2, q3, q4⟩ := (FBox.mk q0 q1 q2 q3 q4).below hb; replace hB := bvia hB hb; clear hb)
      | (go_at_call 18; refine (HC.out _ (hf.below hB)).mono ?_; rintro e w6 ⟨rfl, hb⟩; replace hB := bvia hB hb; clear hb))
    go_ret
    exact ⟨rfl, hB⟩
  · have hz' : P.fareE L al th B dn c n = 0 := by simpa using hz
    rw [hz'] at HC ⊢
    obtain ⟨k1, k2, k3, k4, k5, k6, k7, k8⟩ := fareE_zero hz'
    have HB : Aside (∀ x ∈ B, 0 ≤ x.2 ∧ x.2 ≤ 100) := bandsE_in k8
    have HU : (k < 0 ∨ c ≤ k) ∧ P.priceE L al th B dn c n k f t g = 3 ∨ (0 ≤ k ∧ k < c) ∧ ((P.chk f t n == 0) = false ∧ P.priceE L al th B dn c n k f t g = P.chk f t n ∨ P.chk f t n = 0 ∧ ((g < 1 ∨ 4 < g) ∧ P.priceE L al th B dn c n k f t g = 3 ∨ (1 ≤ g ∧ g ≤ 4) ∧ P.priceE L al th B dn c n k f t g = 0)) := by
      by_cases hk : 0 ≤ k ∧ k < c
      · refine .inr ⟨hk, ?_⟩
        have e1 : P.btw k 0 (c - 1) = true := by simp [P.btw]; omega
        by_cases hc : P.chk f t n = 0
        · refine .inr ⟨hc, ?_⟩
          by_cases hg : 1 ≤ g ∧ g ≤ 4
          · exact .inr ⟨hg, (priceE_mk hz' hk hc hg).1⟩
          · exact .inl ⟨by omega, by rw [P.priceE, if_pos hz', if_pos e1, if_pos hc, if_neg (by simp [P.btw]; omega)]⟩
        · exact .inl ⟨by simpa using hc, by rw [P.priceE, if_pos hz', if_pos e1, if_neg hc]⟩
      · exact .inl ⟨by omega, by rw [P.priceE, if_pos hz', if_neg (by simp [P.btw]; omega)]⟩
    have HW : (p < 0 ∨ 100000000 < p) ∧ P.fareP L al th B dn c n p = 3 ∨ (0 ≤ p ∧ p ≤ 100000000) ∧ P.fareP L al th B dn c n p = 0 := by
      by_cases hp : 0 ≤ p ∧ p ≤ 100000000
      · exact .inr ⟨hp, by rw [P.fareP, if_pos hz', if_pos (by simp [P.btw]; omega)]⟩
      · exact .inl ⟨by omega, by rw [P.fareP, if_pos hz', if_neg (by simp [P.btw]; omega)]⟩
    have HPr : Aside (P.priceE L al th B dn c n k f t g ≠ 0 → P.price L al th B dn c n k f t g = 0) := fun h => by rw [P.price, if_neg h]
    have HPo : Aside (P.priceE L al th B dn c n k f t g = 0 → ∀ w, FareAt w lo bo lc bc L B → Calls Try.prog 14 #[V.fare lo bo lc bc L al th B dn, .int .i64 k, .agg #[.int .i64 f, .int .i64 t], .int .i64 g] w fun e w' => e = .returned (.int .i64 (P.price L al th B dn c n k f t g)) ∧ Below w.heap.size w w') := fun h w hw => priceOf_any _ _ _ _ _ _ _ _ _ c n _ _ _ _ w hw h
    have HDn : Aside (P.down L al th B dn c n p = if P.fareP L al th B dn c n p = 0 then P.part p dn else 0) := rfl
    have HPn : Aside ((P.fareP L al th B dn c n p ≠ 0 → P.penE L al th B dn c n p d = P.fareP L al th B dn c n p ∧ P.pen L al th B dn c n p d = 0) ∧ (P.fareP L al th B dn c n p = 0 → (d < 0 → P.penE L al th B dn c n p d = 3 ∧ P.pen L al th B dn c n p d = 0) ∧ (0 ≤ d → P.penE L al th B dn c n p d = 0 ∧ P.pen L al th B dn c n p d = P.penV B p d))) := by
      refine ⟨fun h => ?_, fun h => ⟨fun hd => ?_, fun hd => ?_⟩⟩
      · have e : P.penE L al th B dn c n p d = P.fareP L al th B dn c n p := by rw [P.penE, if_neg h]
        exact ⟨e, by rw [P.pen, e, if_neg h]⟩
      · have e : P.penE L al th B dn c n p d = 3 := by rw [P.penE, if_pos h, if_pos hd]
        exact ⟨e, by rw [P.pen, e]; rfl⟩
      · have e : P.penE L al th B dn c n p d = 0 := by rw [P.penE, if_pos h, if_neg (by omega)]
        exact ⟨e, by rw [P.pen, e]; rfl⟩
    have HPp : Aside (P.fareP L al th B dn c n p = 0 → 0 ≤ p * dn ∧ p * dn ≤ 10000000000) := fun h => by
      have := fareP_zero h
      exact mul_in (m := 100000000) (n := 100) ⟨by omega, by omega⟩ k7
    have HPq : Aside (P.fareP L al th B dn c n p = 0 → ∀ w, FareAt w lo bo lc bc L B → Calls Try.prog 16 #[V.fare lo bo lc bc L al th B dn, .int .i64 p, .int .i64 d] w fun e w' => e = .returned (.int .i64 (P.penV B p d)) ∧ Below w.heap.size w w') := fun h w hw => by
      have := fareP_zero h
      exact penaltyOf_any _ _ _ _ _ _ _ _ _ _ _ w hw HB.out ⟨by omega, by omega⟩
    have hc1 : 1 ≤ c := k1.1
    clear hz' hz k1 k2 k3 k4 k5 k6 k7 k8 HB
    rcases HW with ⟨hp, hw⟩ | ⟨hp, hw⟩
    · have hdn := HDn.out
      rw [hw, if_neg (by decide)] at hdn
      obtain ⟨x1, x2⟩ := HPn.out.1 (by rw [hw]; decide)
      rw [hw] at x1
      rw [hw, hdn, x1, x2]
      clear HDn HPn HPp HPq hw hdn x1 x2
      rcases hp with hp | hp
      · skip
        rcases HU with ⟨hk, hu⟩ | ⟨hk, ⟨hc, hu⟩ | ⟨hc, ⟨hg, hu⟩ | ⟨hg, hu⟩⟩⟩
        · have hpr := HPr.out (by rw [hu]; decide)
          rw [hu, hpr]
          clear HPr HPo hu hpr
          rcases hk with hk | hk
          · skip
            go_wp2_with (first
              | (go_at_call 17; refine (fareBegun_any _).mono ?_; rintro e w5 ⟨rfl, hb⟩; replace ⟨q0, q1, q2, q3, q4⟩ := (FBox.mk q0 q1 q2 q3 q4).below hb; replace hB := bvia hB hb; clear hb)
              | (go_at_call 18; refine (HC.out _ (hf.below hB)).mono ?_; rintro e w6 ⟨rfl, hb⟩; replace hB := bvia hB hb; clear hb))
            go_ret
            exact ⟨rfl, hB⟩
          · have hk' : ¬ k < 0 := by omega
            go_wp2_with (first
              | (go_at_call 17; refine (fareBegun_any _).mono ?_; rintro e w5 ⟨rfl, hb⟩; replace ⟨q0, q1, q2, q3, q4⟩ := (FBox.mk q0 q1 q2 q3 q4).below hb; replace hB := bvia hB hb; clear hb)
              | (go_at_call 18; refine (HC.out _ (hf.below hB)).mono ?_; rintro e w6 ⟨rfl, hb⟩; replace hB := bvia hB hb; clear hb))
            go_ret
            exact ⟨rfl, hB⟩
        · have hpr := HPr.out (by rw [hu]; simpa using hc)
          rw [hu, hpr]
          clear HPr HPo hu hpr
          have hk1 : ¬ k < 0 := by omega
          have hk2 : ¬ c ≤ k := by omega
          generalize hC : P.chk f t n = C at hc ⊢
          have HCk : Aside (P.chk f t n = C) := hC
          clear hC
          go_wp2_with (first
            | (go_at_call 13; refine (checkSpan_any _ _ _ _).mono ?_; rintro e w7 ⟨rfl, hb⟩; replace ⟨q0, q1, q2, q3, q4⟩ := (FBox.mk q0 q1 q2 q3 q4).below hb; replace ⟨r0, r1⟩ := (SBox.mk r0 r1).below hb; replace hB := bvia hB hb; clear hb; rw [HCk.out])
            | (go_at_call 17; refine (fareBegun_any _).mono ?_; rintro e w5 ⟨rfl, hb⟩; replace ⟨q0, q1, q2, q3, q4⟩ := (FBox.mk q0 q1 q2 q3 q4).below hb; replace hB := bvia hB hb; clear hb)
            | (go_at_call 18; refine (HC.out _ (hf.below hB)).mono ?_; rintro e w6 ⟨rfl, hb⟩; replace hB := bvia hB hb; clear hb))
          go_ret
          exact ⟨rfl, hB⟩
        · have hpr := HPr.out (by rw [hu]; decide)
          rw [hu, hpr]
          clear HPr HPo hu hpr
          have hk1 : ¬ k < 0 := by omega
          have hk2 : ¬ c ≤ k := by omega
          have HCk : Aside (P.chk f t n = 0) := hc
          clear hc
          rcases hg with hg | hg
          · skip
            go_wp2_with (first
              | (go_at_call 13; refine (checkSpan_any _ _ _ _).mono ?_; rintro e w7 ⟨rfl, hb⟩; replace ⟨q0, q1, q2, q3, q4⟩ := (FBox.mk q0 q1 q2 q3 q4).below hb; replace ⟨r0, r1⟩ := (SBox.mk r0 r1).below hb; replace hB := bvia hB hb; clear hb; rw [HCk.out])
              | (go_at_call 17; refine (fareBegun_any _).mono ?_; rintro e w5 ⟨rfl, hb⟩; replace ⟨q0, q1, q2, q3, q4⟩ := (FBox.mk q0 q1 q2 q3 q4).below hb; replace hB := bvia hB hb; clear hb)
              | (go_at_call 18; refine (HC.out _ (hf.below hB)).mono ?_; rintro e w6 ⟨rfl, hb⟩; replace hB := bvia hB hb; clear hb))
            go_ret
            exact ⟨rfl, hB⟩
          · have hg' : ¬ g < 1 := by omega
            go_wp2_with (first
              | (go_at_call 13; refine (checkSpan_any _ _ _ _).mono ?_; rintro e w7 ⟨rfl, hb⟩; replace ⟨q0, q1, q2, q3, q4⟩ := (FBox.mk q0 q1 q2 q3 q4).below hb; replace ⟨r0, r1⟩ := (SBox.mk r0 r1).below hb; replace hB := bvia hB hb; clear hb; rw [HCk.out])
              | (go_at_call 17; refine (fareBegun_any _).mono ?_; rintro e w5 ⟨rfl, hb⟩; replace ⟨q0, q1, q2, q3, q4⟩ := (FBox.mk q0 q1 q2 q3 q4).below hb; replace hB := bvia hB hb; clear hb)
              | (go_at_call 18; refine (HC.out _ (hf.below hB)).mono ?_; rintro e w6 ⟨rfl, hb⟩; replace hB := bvia hB hb; clear hb))
            go_ret
            exact ⟨rfl, hB⟩
        · have HPO := (show Hid _ from HPo.out hu)
          rw [hu]
          clear HPr HPo hu
          have hk1 : ¬ k < 0 := by omega
          have hk2 : ¬ c ≤ k := by omega
          have HCk : Aside (P.chk f t n = 0) := hc
          clear hc
          have hg1 : ¬ g < 1 := by omega
          have hg2 : ¬ 4 < g := by omega
          generalize P.price L al th B dn c n k f t g = A at HPO ⊢
          go_wp2_with (first
            | (go_at_call 13; refine (checkSpan_any _ _ _ _).mono ?_; rintro e w7 ⟨rfl, hb⟩; replace ⟨q0, q1, q2, q3, q4⟩ := (FBox.mk q0 q1 q2 q3 q4).below hb; replace ⟨r0, r1⟩ := (SBox.mk r0 r1).below hb; replace hB := bvia hB hb; clear hb; rw [HCk.out])
            | (go_at_call 14; refine (HPO.out _ (hf.below hB)).mono ?_; rintro e w8 ⟨rfl, hb⟩; replace ⟨q0, q1, q2, q3, q4⟩ := (FBox.mk q0 q1 q2 q3 q4).below hb; replace hB := bvia hB hb; clear hb)
            | (go_at_call 17; refine (fareBegun_any _).mono ?_; rintro e w5 ⟨rfl, hb⟩; replace ⟨q0, q1, q2, q3, q4⟩ := (FBox.mk q0 q1 q2 q3 q4).below hb; replace hB := bvia hB hb; clear hb)
            | (go_at_call 18; refine (HC.out _ (hf.below hB)).mono ?_; rintro e w6 ⟨rfl, hb⟩; replace hB := bvia hB hb; clear hb))
          go_ret
          exact ⟨rfl, hB⟩
      · have hp' : ¬ p < 0 := by omega
        rcases HU with ⟨hk, hu⟩ | ⟨hk, ⟨hc, hu⟩ | ⟨hc, ⟨hg, hu⟩ | ⟨hg, hu⟩⟩⟩
        · have hpr := HPr.out (by rw [hu]; decide)
          rw [hu, hpr]
          clear HPr HPo hu hpr
          rcases hk with hk | hk
          · skip
            go_wp2_with (first
              | (go_at_call 17; refine (fareBegun_any _).mono ?_; rintro e w5 ⟨rfl, hb⟩; replace ⟨q0, q1, q2, q3, q4⟩ := (FBox.mk q0 q1 q2 q3 q4).below hb; replace hB := bvia hB hb; clear hb)
              | (go_at_call 18; refine (HC.out _ (hf.below hB)).mono ?_; rintro e w6 ⟨rfl, hb⟩; replace hB := bvia hB hb; clear hb))
            go_ret
            exact ⟨rfl, hB⟩
          · have hk' : ¬ k < 0 := by omega
            go_wp2_with (first
              | (go_at_call 17; refine (fareBegun_any _).mono ?_; rintro e w5 ⟨rfl, hb⟩; replace ⟨q0, q1, q2, q3, q4⟩ := (FBox.mk q0 q1 q2 q3 q4).below hb; replace hB := bvia hB hb; clear hb)
              | (go_at_call 18; refine (HC.out _ (hf.below hB)).mono ?_; rintro e w6 ⟨rfl, hb⟩; replace hB := bvia hB hb; clear hb))
            go_ret
            exact ⟨rfl, hB⟩
        · have hpr := HPr.out (by rw [hu]; simpa using hc)
          rw [hu, hpr]
          clear HPr HPo hu hpr
          have hk1 : ¬ k < 0 := by omega
          have hk2 : ¬ c ≤ k := by omega
          generalize hC : P.chk f t n = C at hc ⊢
          have HCk : Aside (P.chk f t n = C) := hC
          clear hC
          go_wp2_with (first
            | (go_at_call 13; refine (checkSpan_any _ _ _ _).mono ?_; rintro e w7 ⟨rfl, hb⟩; replace ⟨q0, q1, q2, q3, q4⟩ := (FBox.mk q0 q1 q2 q3 q4).below hb; replace ⟨r0, r1⟩ := (SBox.mk r0 r1).below hb; replace hB := bvia hB hb; clear hb; rw [HCk.out])
            | (go_at_call 17; refine (fareBegun_any _).mono ?_; rintro e w5 ⟨rfl, hb⟩; replace ⟨q0, q1, q2, q3, q4⟩ := (FBox.mk q0 q1 q2 q3 q4).below hb; replace hB := bvia hB hb; clear hb)
            | (go_at_call 18; refine (HC.out _ (hf.below hB)).mono ?_; rintro e w6 ⟨rfl, hb⟩; replace hB := bvia hB hb; clear hb))
          go_ret
          exact ⟨rfl, hB⟩
        · have hpr := HPr.out (by rw [hu]; decide)
          rw [hu, hpr]
          clear HPr HPo hu hpr
          have hk1 : ¬ k < 0 := by omega
          have hk2 : ¬ c ≤ k := by omega
          have HCk : Aside (P.chk f t n = 0) := hc
          clear hc
          rcases hg with hg | hg
          · skip
            go_wp2_with (first
              | (go_at_call 13; refine (checkSpan_any _ _ _ _).mono ?_; rintro e w7 ⟨rfl, hb⟩; replace ⟨q0, q1, q2, q3, q4⟩ := (FBox.mk q0 q1 q2 q3 q4).below hb; replace ⟨r0, r1⟩ := (SBox.mk r0 r1).below hb; replace hB := bvia hB hb; clear hb; rw [HCk.out])
              | (go_at_call 17; refine (fareBegun_any _).mono ?_; rintro e w5 ⟨rfl, hb⟩; replace ⟨q0, q1, q2, q3, q4⟩ := (FBox.mk q0 q1 q2 q3 q4).below hb; replace hB := bvia hB hb; clear hb)
              | (go_at_call 18; refine (HC.out _ (hf.below hB)).mono ?_; rintro e w6 ⟨rfl, hb⟩; replace hB := bvia hB hb; clear hb))
            go_ret
            exact ⟨rfl, hB⟩
          · have hg' : ¬ g < 1 := by omega
            go_wp2_with (first
              | (go_at_call 13; refine (checkSpan_any _ _ _ _).mono ?_; rintro e w7 ⟨rfl, hb⟩; replace ⟨q0, q1, q2, q3, q4⟩ := (FBox.mk q0 q1 q2 q3 q4).below hb; replace ⟨r0, r1⟩ := (SBox.mk r0 r1).below hb; replace hB := bvia hB hb; clear hb; rw [HCk.out])
              | (go_at_call 17; refine (fareBegun_any _).mono ?_; rintro e w5 ⟨rfl, hb⟩; replace ⟨q0, q1, q2, q3, q4⟩ := (FBox.mk q0 q1 q2 q3 q4).below hb; replace hB := bvia hB hb; clear hb)
              | (go_at_call 18; refine (HC.out _ (hf.below hB)).mono ?_; rintro e w6 ⟨rfl, hb⟩; replace hB := bvia hB hb; clear hb))
            go_ret
            exact ⟨rfl, hB⟩
        · have HPO := (show Hid _ from HPo.out hu)
          rw [hu]
          clear HPr HPo hu
          have hk1 : ¬ k < 0 := by omega
          have hk2 : ¬ c ≤ k := by omega
          have HCk : Aside (P.chk f t n = 0) := hc
          clear hc
          have hg1 : ¬ g < 1 := by omega
          have hg2 : ¬ 4 < g := by omega
          generalize P.price L al th B dn c n k f t g = A at HPO ⊢
          go_wp2_with (first
            | (go_at_call 13; refine (checkSpan_any _ _ _ _).mono ?_; rintro e w7 ⟨rfl, hb⟩; replace ⟨q0, q1, q2, q3, q4⟩ := (FBox.mk q0 q1 q2 q3 q4).below hb; replace ⟨r0, r1⟩ := (SBox.mk r0 r1).below hb; replace hB := bvia hB hb; clear hb; rw [HCk.out])
            | (go_at_call 14; refine (HPO.out _ (hf.below hB)).mono ?_; rintro e w8 ⟨rfl, hb⟩; replace ⟨q0, q1, q2, q3, q4⟩ := (FBox.mk q0 q1 q2 q3 q4).below hb; replace hB := bvia hB hb; clear hb)
            | (go_at_call 17; refine (fareBegun_any _).mono ?_; rintro e w5 ⟨rfl, hb⟩; replace ⟨q0, q1, q2, q3, q4⟩ := (FBox.mk q0 q1 q2 q3 q4).below hb; replace hB := bvia hB hb; clear hb)
            | (go_at_call 18; refine (HC.out _ (hf.below hB)).mono ?_; rintro e w6 ⟨rfl, hb⟩; replace hB := bvia hB hb; clear hb))
          go_ret
          exact ⟨rfl, hB⟩
    · have hdn := HDn.out
      rw [hw, if_pos rfl] at hdn
      have hpd := HPp.out hw
      have HPQ := (show Hid _ from HPq.out hw)
      have hp1 : ¬ p < 0 := by omega
      have hp2 : ¬ 100000000 < p := by omega
      rcases Int.lt_or_le d 0 with hd | hd
      · obtain ⟨x1, x2⟩ := (HPn.out.2 hw).1 hd
        rw [hw, hdn, x1, x2]
        clear HDn HPn HPp HPq HPQ hw hdn x1 x2
        rcases HU with ⟨hk, hu⟩ | ⟨hk, ⟨hc, hu⟩ | ⟨hc, ⟨hg, hu⟩ | ⟨hg, hu⟩⟩⟩
        · have hpr := HPr.out (by rw [hu]; decide)
          rw [hu, hpr]
          clear HPr HPo hu hpr
          rcases hk with hk | hk
          · skip
            go_wp2_with (first
              | (go_at_call 15; refine (partOf_any _ _ _ hpd.1 (by omega)).mono ?_; rintro e w9 ⟨rfl, rfl⟩)
              | (go_at_call 17; refine (fareBegun_any _).mono ?_; rintro e w5 ⟨rfl, hb⟩; replace ⟨q0, q1, q2, q3, q4⟩ := (FBox.mk q0 q1 q2 q3 q4).below hb; replace hB := bvia hB hb; clear hb)
              | (go_at_call 18; refine (HC.out _ (hf.below hB)).mono ?_; rintro e w6 ⟨rfl, hb⟩; replace hB := bvia hB hb; clear hb))
            go_ret
            exact ⟨rfl, hB⟩
          · have hk' : ¬ k < 0 := by omega
            go_wp2_with (first
              | (go_at_call 15; refine (partOf_any _ _ _ hpd.1 (by omega)).mono ?_; rintro e w9 ⟨rfl, rfl⟩)
              | (go_at_call 17; refine (fareBegun_any _).mono ?_; rintro e w5 ⟨rfl, hb⟩; replace ⟨q0, q1, q2, q3, q4⟩ := (FBox.mk q0 q1 q2 q3 q4).below hb; replace hB := bvia hB hb; clear hb)
              | (go_at_call 18; refine (HC.out _ (hf.below hB)).mono ?_; rintro e w6 ⟨rfl, hb⟩; replace hB := bvia hB hb; clear hb))
            go_ret
            exact ⟨rfl, hB⟩
        · have hpr := HPr.out (by rw [hu]; simpa using hc)
          rw [hu, hpr]
          clear HPr HPo hu hpr
          have hk1 : ¬ k < 0 := by omega
          have hk2 : ¬ c ≤ k := by omega
          generalize hC : P.chk f t n = C at hc ⊢
          have HCk : Aside (P.chk f t n = C) := hC
          clear hC
          go_wp2_with (first
            | (go_at_call 13; refine (checkSpan_any _ _ _ _).mono ?_; rintro e w7 ⟨rfl, hb⟩; replace ⟨q0, q1, q2, q3, q4⟩ := (FBox.mk q0 q1 q2 q3 q4).below hb; replace ⟨r0, r1⟩ := (SBox.mk r0 r1).below hb; replace hB := bvia hB hb; clear hb; rw [HCk.out])
            | (go_at_call 15; refine (partOf_any _ _ _ hpd.1 (by omega)).mono ?_; rintro e w9 ⟨rfl, rfl⟩)
            | (go_at_call 17; refine (fareBegun_any _).mono ?_; rintro e w5 ⟨rfl, hb⟩; replace ⟨q0, q1, q2, q3, q4⟩ := (FBox.mk q0 q1 q2 q3 q4).below hb; replace hB := bvia hB hb; clear hb)
            | (go_at_call 18; refine (HC.out _ (hf.below hB)).mono ?_; rintro e w6 ⟨rfl, hb⟩; replace hB := bvia hB hb; clear hb))
          go_ret
          exact ⟨rfl, hB⟩
        · have hpr := HPr.out (by rw [hu]; decide)
          rw [hu, hpr]
          clear HPr HPo hu hpr
          have hk1 : ¬ k < 0 := by omega
          have hk2 : ¬ c ≤ k := by omega
          have HCk : Aside (P.chk f t n = 0) := hc
          clear hc
          rcases hg with hg | hg
          · skip
            go_wp2_with (first
              | (go_at_call 13; refine (checkSpan_any _ _ _ _).mono ?_; rintro e w7 ⟨rfl, hb⟩; replace ⟨q0, q1, q2, q3, q4⟩ := (FBox.mk q0 q1 q2 q3 q4).below hb; replace ⟨r0, r1⟩ := (SBox.mk r0 r1).below hb; replace hB := bvia hB hb; clear hb; rw [HCk.out])
              | (go_at_call 15; refine (partOf_any _ _ _ hpd.1 (by omega)).mono ?_; rintro e w9 ⟨rfl, rfl⟩)
              | (go_at_call 17; refine (fareBegun_any _).mono ?_; rintro e w5 ⟨rfl, hb⟩; replace ⟨q0, q1, q2, q3, q4⟩ := (FBox.mk q0 q1 q2 q3 q4).below hb; replace hB := bvia hB hb; clear hb)
              | (go_at_call 18; refine (HC.out _ (hf.below hB)).mono ?_; rintro e w6 ⟨rfl, hb⟩; replace hB := bvia hB hb; clear hb))
            go_ret
            exact ⟨rfl, hB⟩
          · have hg' : ¬ g < 1 := by omega
            go_wp2_with (first
              | (go_at_call 13; refine (checkSpan_any _ _ _ _).mono ?_; rintro e w7 ⟨rfl, hb⟩; replace ⟨q0, q1, q2, q3, q4⟩ := (FBox.mk q0 q1 q2 q3 q4).below hb; replace ⟨r0, r1⟩ := (SBox.mk r0 r1).below hb; replace hB := bvia hB hb; clear hb; rw [HCk.out])
              | (go_at_call 15; refine (partOf_any _ _ _ hpd.1 (by omega)).mono ?_; rintro e w9 ⟨rfl, rfl⟩)
              | (go_at_call 17; refine (fareBegun_any _).mono ?_; rintro e w5 ⟨rfl, hb⟩; replace ⟨q0, q1, q2, q3, q4⟩ := (FBox.mk q0 q1 q2 q3 q4).below hb; replace hB := bvia hB hb; clear hb)
              | (go_at_call 18; refine (HC.out _ (hf.below hB)).mono ?_; rintro e w6 ⟨rfl, hb⟩; replace hB := bvia hB hb; clear hb))
            go_ret
            exact ⟨rfl, hB⟩
        · have HPO := (show Hid _ from HPo.out hu)
          rw [hu]
          clear HPr HPo hu
          have hk1 : ¬ k < 0 := by omega
          have hk2 : ¬ c ≤ k := by omega
          have HCk : Aside (P.chk f t n = 0) := hc
          clear hc
          have hg1 : ¬ g < 1 := by omega
          have hg2 : ¬ 4 < g := by omega
          generalize P.price L al th B dn c n k f t g = A at HPO ⊢
          go_wp2_with (first
            | (go_at_call 13; refine (checkSpan_any _ _ _ _).mono ?_; rintro e w7 ⟨rfl, hb⟩; replace ⟨q0, q1, q2, q3, q4⟩ := (FBox.mk q0 q1 q2 q3 q4).below hb; replace ⟨r0, r1⟩ := (SBox.mk r0 r1).below hb; replace hB := bvia hB hb; clear hb; rw [HCk.out])
            | (go_at_call 14; refine (HPO.out _ (hf.below hB)).mono ?_; rintro e w8 ⟨rfl, hb⟩; replace ⟨q0, q1, q2, q3, q4⟩ := (FBox.mk q0 q1 q2 q3 q4).below hb; replace hB := bvia hB hb; clear hb)
            | (go_at_call 15; refine (partOf_any _ _ _ hpd.1 (by omega)).mono ?_; rintro e w9 ⟨rfl, rfl⟩)
            | (go_at_call 17; refine (fareBegun_any _).mono ?_; rintro e w5 ⟨rfl, hb⟩; replace ⟨q0, q1, q2, q3, q4⟩ := (FBox.mk q0 q1 q2 q3 q4).below hb; replace hB := bvia hB hb; clear hb)
            | (go_at_call 18; refine (HC.out _ (hf.below hB)).mono ?_; rintro e w6 ⟨rfl, hb⟩; replace hB := bvia hB hb; clear hb))
          go_ret
          exact ⟨rfl, hB⟩
      · obtain ⟨x1, x2⟩ := (HPn.out.2 hw).2 hd
        rw [hw, hdn, x1, x2]
        clear HDn HPn HPp HPq hw hdn x1 x2
        have hd' : ¬ d < 0 := by omega
        generalize P.penV B p d = V at HPQ ⊢
        rcases HU with ⟨hk, hu⟩ | ⟨hk, ⟨hc, hu⟩ | ⟨hc, ⟨hg, hu⟩ | ⟨hg, hu⟩⟩⟩
        · have hpr := HPr.out (by rw [hu]; decide)
          rw [hu, hpr]
          clear HPr HPo hu hpr
          rcases hk with hk | hk
          · skip
            go_wp2_with (first
              | (go_at_call 15; refine (partOf_any _ _ _ hpd.1 (by omega)).mono ?_; rintro e w9 ⟨rfl, rfl⟩)
              | (go_at_call 16; refine (HPQ.out _ (hf.below hB)).mono ?_; rintro e w10 ⟨rfl, hb⟩; replace ⟨q0, q1, q2, q3, q4⟩ := (FBox.mk q0 q1 q2 q3 q4).below hb; replace hB := bvia hB hb; clear hb)
              | (go_at_call 17; refine (fareBegun_any _).mono ?_; rintro e w5 ⟨rfl, hb⟩; replace ⟨q0, q1, q2, q3, q4⟩ := (FBox.mk q0 q1 q2 q3 q4).below hb; replace hB := bvia hB hb; clear hb)
              | (go_at_call 18; refine (HC.out _ (hf.below hB)).mono ?_; rintro e w6 ⟨rfl, hb⟩; replace hB := bvia hB hb; clear hb))
            go_ret
            exact ⟨rfl, hB⟩
          · have hk' : ¬ k < 0 := by omega
            go_wp2_with (first
              | (go_at_call 15; refine (partOf_any _ _ _ hpd.1 (by omega)).mono ?_; rintro e w9 ⟨rfl, rfl⟩)
              | (go_at_call 16; refine (HPQ.out _ (hf.below hB)).mono ?_; rintro e w10 ⟨rfl, hb⟩; replace ⟨q0, q1, q2, q3, q4⟩ := (FBox.mk q0 q1 q2 q3 q4).below hb; replace hB := bvia hB hb; clear hb)
              | (go_at_call 17; refine (fareBegun_any _).mono ?_; rintro e w5 ⟨rfl, hb⟩; replace ⟨q0, q1, q2, q3, q4⟩ := (FBox.mk q0 q1 q2 q3 q4).below hb; replace hB := bvia hB hb; clear hb)
              | (go_at_call 18; refine (HC.out _ (hf.below hB)).mono ?_; rintro e w6 ⟨rfl, hb⟩; replace hB := bvia hB hb; clear hb))
            go_ret
            exact ⟨rfl, hB⟩
        · have hpr := HPr.out (by rw [hu]; simpa using hc)
          rw [hu, hpr]
          clear HPr HPo hu hpr
          have hk1 : ¬ k < 0 := by omega
          have hk2 : ¬ c ≤ k := by omega
          generalize hC : P.chk f t n = C at hc ⊢
          have HCk : Aside (P.chk f t n = C) := hC
          clear hC
          go_wp2_with (first
            | (go_at_call 13; refine (checkSpan_any _ _ _ _).mono ?_; rintro e w7 ⟨rfl, hb⟩; replace ⟨q0, q1, q2, q3, q4⟩ := (FBox.mk q0 q1 q2 q3 q4).below hb; replace ⟨r0, r1⟩ := (SBox.mk r0 r1).below hb; replace hB := bvia hB hb; clear hb; rw [HCk.out])
            | (go_at_call 15; refine (partOf_any _ _ _ hpd.1 (by omega)).mono ?_; rintro e w9 ⟨rfl, rfl⟩)
            | (go_at_call 16; refine (HPQ.out _ (hf.below hB)).mono ?_; rintro e w10 ⟨rfl, hb⟩; replace ⟨q0, q1, q2, q3, q4⟩ := (FBox.mk q0 q1 q2 q3 q4).below hb; replace hB := bvia hB hb; clear hb)
            | (go_at_call 17; refine (fareBegun_any _).mono ?_; rintro e w5 ⟨rfl, hb⟩; replace ⟨q0, q1, q2, q3, q4⟩ := (FBox.mk q0 q1 q2 q3 q4).below hb; replace hB := bvia hB hb; clear hb)
            | (go_at_call 18; refine (HC.out _ (hf.below hB)).mono ?_; rintro e w6 ⟨rfl, hb⟩; replace hB := bvia hB hb; clear hb))
          go_ret
          exact ⟨rfl, hB⟩
        · have hpr := HPr.out (by rw [hu]; decide)
          rw [hu, hpr]
          clear HPr HPo hu hpr
          have hk1 : ¬ k < 0 := by omega
          have hk2 : ¬ c ≤ k := by omega
          have HCk : Aside (P.chk f t n = 0) := hc
          clear hc
          rcases hg with hg | hg
          · skip
            go_wp2_with (first
              | (go_at_call 13; refine (checkSpan_any _ _ _ _).mono ?_; rintro e w7 ⟨rfl, hb⟩; replace ⟨q0, q1, q2, q3, q4⟩ := (FBox.mk q0 q1 q2 q3 q4).below hb; replace ⟨r0, r1⟩ := (SBox.mk r0 r1).below hb; replace hB := bvia hB hb; clear hb; rw [HCk.out])
              | (go_at_call 15; refine (partOf_any _ _ _ hpd.1 (by omega)).mono ?_; rintro e w9 ⟨rfl, rfl⟩)
              | (go_at_call 16; refine (HPQ.out _ (hf.below hB)).mono ?_; rintro e w10 ⟨rfl, hb⟩; replace ⟨q0, q1, q2, q3, q4⟩ := (FBox.mk q0 q1 q2 q3 q4).below hb; replace hB := bvia hB hb; clear hb)
              | (go_at_call 17; refine (fareBegun_any _).mono ?_; rintro e w5 ⟨rfl, hb⟩; replace ⟨q0, q1, q2, q3, q4⟩ := (FBox.mk q0 q1 q2 q3 q4).below hb; replace hB := bvia hB hb; clear hb)
              | (go_at_call 18; refine (HC.out _ (hf.below hB)).mono ?_; rintro e w6 ⟨rfl, hb⟩; replace hB := bvia hB hb; clear hb))
            go_ret
            exact ⟨rfl, hB⟩
          · have hg' : ¬ g < 1 := by omega
            go_wp2_with (first
              | (go_at_call 13; refine (checkSpan_any _ _ _ _).mono ?_; rintro e w7 ⟨rfl, hb⟩; replace ⟨q0, q1, q2, q3, q4⟩ := (FBox.mk q0 q1 q2 q3 q4).below hb; replace ⟨r0, r1⟩ := (SBox.mk r0 r1).below hb; replace hB := bvia hB hb; clear hb; rw [HCk.out])
              | (go_at_call 15; refine (partOf_any _ _ _ hpd.1 (by omega)).mono ?_; rintro e w9 ⟨rfl, rfl⟩)
              | (go_at_call 16; refine (HPQ.out _ (hf.below hB)).mono ?_; rintro e w10 ⟨rfl, hb⟩; replace ⟨q0, q1, q2, q3, q4⟩ := (FBox.mk q0 q1 q2 q3 q4).below hb; replace hB := bvia hB hb; clear hb)
              | (go_at_call 17; refine (fareBegun_any _).mono ?_; rintro e w5 ⟨rfl, hb⟩; replace ⟨q0, q1, q2, q3, q4⟩ := (FBox.mk q0 q1 q2 q3 q4).below hb; replace hB := bvia hB hb; clear hb)
              | (go_at_call 18; refine (HC.out _ (hf.below hB)).mono ?_; rintro e w6 ⟨rfl, hb⟩; replace hB := bvia hB hb; clear hb))
            go_ret
            exact ⟨rfl, hB⟩
        · have HPO := (show Hid _ from HPo.out hu)
          rw [hu]
          clear HPr HPo hu
          have hk1 : ¬ k < 0 := by omega
          have hk2 : ¬ c ≤ k := by omega
          have HCk : Aside (P.chk f t n = 0) := hc
          clear hc
          have hg1 : ¬ g < 1 := by omega
          have hg2 : ¬ 4 < g := by omega
          generalize P.price L al th B dn c n k f t g = A at HPO ⊢
          go_wp2_with (first
            | (go_at_call 13; refine (checkSpan_any _ _ _ _).mono ?_; rintro e w7 ⟨rfl, hb⟩; replace ⟨q0, q1, q2, q3, q4⟩ := (FBox.mk q0 q1 q2 q3 q4).below hb; replace ⟨r0, r1⟩ := (SBox.mk r0 r1).below hb; replace hB := bvia hB hb; clear hb; rw [HCk.out])
            | (go_at_call 14; refine (HPO.out _ (hf.below hB)).mono ?_; rintro e w8 ⟨rfl, hb⟩; replace ⟨q0, q1, q2, q3, q4⟩ := (FBox.mk q0 q1 q2 q3 q4).below hb; replace hB := bvia hB hb; clear hb)
            | (go_at_call 15; refine (partOf_any _ _ _ hpd.1 (by omega)).mono ?_; rintro e w9 ⟨rfl, rfl⟩)
            | (go_at_call 16; refine (HPQ.out _ (hf.below hB)).mono ?_; rintro e w10 ⟨rfl, hb⟩; replace ⟨q0, q1, q2, q3, q4⟩ := (FBox.mk q0 q1 q2 q3 q4).below hb; replace hB := bvia hB hb; clear hb)
            | (go_at_call 17; refine (fareBegun_any _).mono ?_; rintro e w5 ⟨rfl, hb⟩; replace ⟨q0, q1, q2, q3, q4⟩ := (FBox.mk q0 q1 q2 q3 q4).below hb; replace hB := bvia hB hb; clear hb)
            | (go_at_call 18; refine (HC.out _ (hf.below hB)).mono ?_; rintro e w6 ⟨rfl, hb⟩; replace hB := bvia hB hb; clear hb))
          go_ret
          exact ⟨rfl, hB⟩

end Go.Proofs.Ytagjlckmemmflac
