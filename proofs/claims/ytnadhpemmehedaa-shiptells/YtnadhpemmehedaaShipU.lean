/- The walks of the reference's CheckShip (whatever its sizes) and DoesServe, and of the law ShipTells. -/
import Derived.Test.YtnadhpemmehedaaShipT
import Derived.Test.YtnadhpemmehedaaShipR
import Derived.Test.YtnadhpemmehedaaShipI
namespace Go.Proofs.Ytnadhpemmehedaa
open Go.RowKit
set_option linter.unusedSimpArgs false
set_option linter.unusedVariables false
set_option linter.unnecessarySimpa false

set_option maxRecDepth 100000 in
set_option maxHeartbeats 4000000 in
theorem refCheck_any (legs souls : Int) (cao bao : Option Addr) (cc bc : Nat) (cs : List Cat) (bs : List Cab) (w : World) (hs : ShipAt w cao bao cc bc cs bs) :
    Calls Try.prog 26 #[.agg #[.int .i64 legs, .int .i64 souls, .slice cao cs.length cc, .slice bao bs.length bc]] w fun e w' => e = .returned (.int .i64 (P.shipE legs souls cs bs)) ∧ Below w.heap.size w w' := by
  by_cases h0 : P.sizeE legs souls cs.length bs.length = 0
  · exact refCheck_in legs souls cao bao cc bc cs bs w hs h0
  · have hE : P.shipE legs souls cs bs = P.sizeE legs souls cs.length bs.length := by rw [P.shipE, if_neg h0]
    rw [hE]
    generalize cs.length = nc at h0
    generalize bs.length = nb at h0
    have H0 : Aside (¬ P.sizeE legs souls nc nb = 0) := h0
    clear hE hs h0
    cases h1 : P.btw legs 1 7
    · have HE : Aside (P.sizeE legs souls nc nb = 3) := by show _ = _; rw [P.sizeE, h1]; rfl
      go_enter Try.func26, Try.ntmps26
      go_wp2_with (go_at_call 39; refine (between2_any _ _ _ _).mono ?_; rintro e w2 ⟨rfl, rfl⟩; rw [h1])
      go_ret
      exact ⟨ret_int HE.out.symm, by go_grown⟩
    · cases h2 : P.btw souls 1 60
      · have HE : Aside (P.sizeE legs souls nc nb = 3) := by show _ = _; rw [P.sizeE, h1, h2]; rfl
        go_enter Try.func26, Try.ntmps26
        go_wp2_with (go_at_call 39; refine (between2_any _ _ _ _).mono ?_; rintro e w2 ⟨rfl, rfl⟩; first | rw [h1] | rw [h2])
        go_ret
        exact ⟨ret_int HE.out.symm, by go_grown⟩
      · have HE : Aside (P.sizeE legs souls nc nb = (if (decide (5 < nc) || decide (12 < nb)) = true then 2 else if (decide (nc = 0) || decide (nb = 0)) = true then 5 else 0)) := by show _ = _; rw [P.sizeE, h1, h2]; rfl
        have fin : ∀ {x : Int}, (if (decide (5 < nc) || decide (12 < nb)) = true then 2 else if (decide (nc = 0) || decide (nb = 0)) = true then 5 else 0) = x → Aside (P.sizeE legs souls nc nb = x) := fun h => HE.out.trans h
        clear HE
        by_cases c1 : 5 < nc
        · have HF := fin (x := 2) (by simp [c1])
          clear fin
          have c1' : decide ((5 : Int) < (nc : Int)) = true := by simp; omega
          go_enter Try.func26, Try.ntmps26
          go_wp2_with (go_at_call 39; refine (between2_any _ _ _ _).mono ?_; rintro e w2 ⟨rfl, rfl⟩; first | rw [h1] | rw [h2])
          go_ret
          exact ⟨ret_int HF.out.symm, by go_grown⟩
        · have c1' : decide ((5 : Int) < (nc : Int)) = false := decide_eq_false (by omega)
          by_cases c2 : 12 < nb
          · have HF := fin (x := 2) (by simp [c2])
            clear fin
            have c2' : decide ((12 : Int) < (nb : Int)) = true := by simp; omega
            go_enter Try.func26, Try.ntmps26
            go_wp2_with (go_at_call 39; refine (between2_any _ _ _ _).mono ?_; rintro e w2 ⟨rfl, rfl⟩; first | rw [h1] | rw [h2])
            go_ret
            exact ⟨ret_int HF.out.symm, by go_grown⟩
          · have c2' : decide ((12 : Int) < (nb : Int)) = false := decide_eq_false (by omega)
            by_cases c3 : nc = 0
            · have HF := fin (x := 5) (by simp [c1, c2, c3])
              clear fin
              have c3' : ((nc : Int) == 0) = true := beq_iff_eq.2 (by omega)
              go_enter Try.func26, Try.ntmps26
              go_wp2_with (go_at_call 39; refine (between2_any _ _ _ _).mono ?_; rintro e w2 ⟨rfl, rfl⟩; first | rw [h1] | rw [h2])
              go_ret
              exact ⟨ret_int HF.out.symm, by go_grown⟩
            · have c3' : ((nc : Int) == 0) = false := beq_eq_false_iff_ne.2 (by omega)
              by_cases c4 : nb = 0
              · have HF := fin (x := 5) (by simp [c1, c2, c4])
                clear fin
                have c4' : ((nb : Int) == 0) = true := beq_iff_eq.2 (by omega)
                go_enter Try.func26, Try.ntmps26
                go_wp2_with (go_at_call 39; refine (between2_any _ _ _ _).mono ?_; rintro e w2 ⟨rfl, rfl⟩; first | rw [h1] | rw [h2])
                go_ret
                exact ⟨ret_int HF.out.symm, by go_grown⟩
              · exact absurd (fin (x := 0) (by simp [c1, c2, c3, c4])).out H0.out

theorem serves_in' {legs souls : Int} {cs : List Cat} {bs : List Cab} (h : P.shipE legs souls cs bs = 0) {a b : Nat} (ha : a < cs.length) (hb : b < cs.length) : P.servesE legs souls cs bs a b = 0 ∧ P.servesB legs souls cs bs a b = P.war (P.base cs) cs.length a b := by
  have h1 : P.btw a 0 (cs.length - 1) = true := by simp [P.btw]; omega
  have h2 : P.btw b 0 (cs.length - 1) = true := by simp [P.btw]; omega
  have e : P.servesE legs souls cs bs a b = 0 := by rw [P.servesE, if_pos h, h1, h2]; rfl
  exact ⟨e, by rw [P.servesB, e, P.serves]; simp⟩

set_option maxHeartbeats 1000000 in
theorem doesServe_any (legs souls : Int) (cao bao : Option Addr) (cc bc : Nat) (cs : List Cat) (bs : List Cab) (a b : Nat) (w : World) (hs : ShipAt w cao bao cc bc cs bs) (h0 : P.shipE legs souls cs bs = 0) (ha : a < cs.length) (hb : b < cs.length) :
    Calls Try.prog 29 #[.agg #[.int .i64 legs, .int .i64 souls, .slice cao cs.length cc, .slice bao bs.length bc], .int .i64 a, .int .i64 b] w fun e w' => e = .returned (.bool (P.war (P.base cs) cs.length a b)) ∧ Below w.heap.size w w' := by
  obtain ⟨hn1, hn5, hh, _⟩ := ship_facts h0
  have HH : Aside (∀ c ∈ cs, ∀ h ∈ c.2, 0 ≤ h ∧ h < cs.length) := hh
  have HV : Aside (P.war (P.base cs) cs.length a b = ((decide (a = b) && decide (b < cs.length)) || P.war (P.rbase cs) cs.length a b)) := war_split cs _ a b
  clear hh h0
  by_cases e : a = b
  · subst e
    have HW : Aside (P.war (P.base cs) cs.length a a = true) := by show _ = _; rw [HV.out]; simp [ha]
    go_enter Try.func29, Try.ntmps29
    go_wp2
    go_ret
    exact ⟨by first | exact ret_bool HW.out.symm | exact ret_bool rfl, by go_grown⟩
  · have HW : Aside (P.war (P.base cs) cs.length a b = P.war (P.rbase cs) cs.length a b) := by show _ = _; rw [HV.out]; simp [e]
    have e' : ((a : Int) == (b : Int)) = false := beq_eq_false_iff_ne.2 (by omega)
    have p0 : (0 : Int) ≤ a := by omega
    have p1 : (a : Int) < cs.length := by omega
    have p2 : (0 : Int) ≤ b := by omega
    have p3 : (b : Int) < cs.length := by omega
    go_enter Try.func29, Try.ntmps29
    go_wp2_with (go_at_call 50; refine (serveTable_any legs souls _ _ _ _ cs bs _ (hs.below (by go_grown)) hn1 hn5 HH.out).mono ?_; rintro e w1 ⟨g, cap, B, rfl, hT, hb1⟩; have o1 := hT.out a ha; have o2 := hT.get (i := a) (j := b) ha hb)
    go_ret
    exact ⟨ret_bool HW.out.symm, bvia (by go_grown) hb1⟩

set_option maxRecDepth 100000 in
set_option maxHeartbeats 4000000 in
theorem shipTells_walk (legs souls : Int) (cao bao : Option Addr) (cc bc : Nat) (cs : List Cat) (bs : List Cab) (a b : Int) (w : World) (hs : ShipAt w cao bao cc bc cs bs) :
    Calls Try.prog 7 #[.agg #[.int .i64 legs, .int .i64 souls, .slice cao cs.length cc, .slice bao bs.length bc], .int .i64 a, .int .i64 b] w fun e w' => e = .returned (.bool true) ∧ Below w.heap.size w w' := by
  go_enter Try.func7, Try.ntmps7
  go_wp2_with fail
  refine (serves_any legs souls _ _ _ _ cs bs a b _ (hs.below (by go_grown))).mono ?_
  rintro e w1 ⟨rfl, hb1⟩
  have b0 : w1.cell? ⟨w.heap.size, 0, none⟩ = some (.int .i64 legs) := cellIn hb1 (by simp)
  have b1 : w1.cell? ⟨w.heap.size, 1, none⟩ = some (.int .i64 souls) := cellIn hb1 (by simp)
  have b2 : w1.cell? ⟨w.heap.size, 2, none⟩ = some (.slice cao cs.length cc) := cellIn hb1 (by simp)
  have b3 : w1.cell? ⟨w.heap.size, 3, none⟩ = some (.slice bao bs.length bc) := cellIn hb1 (by simp)
  have hw1 : Below w.heap.size w w1 := bvia (by go_grown) hb1
  clear hb1
  go_wp2_with fail
  refine (order_any legs souls _ _ _ _ cs bs _ (hs.below hw1)).mono ?_
  rintro e w2 ⟨v2, rfl, own2, hb2⟩
  obtain ⟨ao2, cap2, rfl, l2⟩ := OwnI.at own2
  have c0 := cellIn hb2 b0
  have c1 := cellIn hb2 b1
  have c2 := cellIn hb2 b2
  have c3 := cellIn hb2 b3
  have hw2 := bvia hw1 hb2
  clear b0 b1 b2 b3 hb2 hw1 own2
  go_wp2_with fail
  refine (refCheck_any legs souls _ _ _ _ cs bs _ (hs.below hw2)).mono ?_
  rintro e w3 ⟨rfl, hb3⟩
  have d0 := cellIn hb3 c0
  have d1 := cellIn hb3 c1
  have d2 := cellIn hb3 c2
  have d3 := cellIn hb3 c3
  have hw3 := bvia hw2 hb3
  have l3 := SlAt.below RInt.mono l2 hb3
  clear c0 c1 c2 c3 hb3 hw2 l2
  by_cases h0 : P.shipE legs souls cs bs = 0
  · have H0 : Aside (P.shipE legs souls cs bs = 0) := h0
    rw [h0]
    clear h0
    by_cases hr : (0 ≤ a ∧ a < cs.length) ∧ (0 ≤ b ∧ b < cs.length)
    · obtain ⟨⟨ha0, ha1⟩, hb0, hb1⟩ := hr
      obtain ⟨A, rfl⟩ : ∃ A : Nat, a = A := ⟨a.toNat, by omega⟩
      obtain ⟨B, rfl⟩ : ∃ B : Nat, b = B := ⟨b.toNat, by omega⟩
      obtain ⟨s1, s2⟩ := serves_in' H0.out (show A < cs.length by omega) (show B < cs.length by omega)
      rw [s1, s2]
      clear s1 s2
      have f1 : decide ((A : Int) < 0) = false := decide_eq_false (by omega)
      have f2 : decide ((B : Int) < 0) = false := decide_eq_false (by omega)
      have f3 : decide ((cs.length : Int) ≤ A) = false := decide_eq_false (by omega)
      have f4 : decide ((cs.length : Int) ≤ B) = false := decide_eq_false (by omega)
      have f5 : decide (cs.length ≤ A) = false := decide_eq_false (by omega)
      have f6 : decide (cs.length ≤ B) = false := decide_eq_false (by omega)
      go_wp2_with fail
      refine (orderOf_any legs souls _ _ _ _ cs bs _ (hs.below hw3) H0.out).mono ?_
      rintro e w4 ⟨v4, rfl, own4, hb4⟩
      obtain ⟨ao4, cap4, rfl, l4⟩ := OwnI.at own4
      have e0 := cellIn hb4 d0
      have e1 := cellIn hb4 d1
      have e2 := cellIn hb4 d2
      have e3 := cellIn hb4 d3
      have hw4 := bvia hw3 hb4
      have m4 := SlAt.below RInt.mono l3 hb4
      clear d0 d1 d2 d3 hb4 hw3 l3 own4
      go_wp2_with fail
      refine (shipBegun_any _).mono ?_
      rintro e w5 ⟨rfl, hb5⟩
      have g0 := cellIn hb5 e0
      have g1 := cellIn hb5 e1
      have g2 := cellIn hb5 e2
      have g3 := cellIn hb5 e3
      have hw5 := bvia hw4 hb5
      have m5 := SlAt.below RInt.mono m4 hb5
      have l5 := SlAt.below RInt.mono l4 hb5
      clear e0 e1 e2 e3 hb5 hw4 m4 l4
      go_wp2_with fail
      refine (shipCheck_any legs souls _ _ _ _ cs bs _ (hs.below hw5)).mono ?_
      rintro e w6 ⟨rfl, hb6⟩
      rw [H0.out]
      have k0 := cellIn hb6 g0
      have k1 := cellIn hb6 g1
      have k2 := cellIn hb6 g2
      have k3 := cellIn hb6 g3
      have hw6 := bvia hw5 hb6
      have m6 := SlAt.below RInt.mono m5 hb6
      have l6 := SlAt.below RInt.mono l5 hb6
      clear g0 g1 g2 g3 hb6 hw5 m5 l5
      go_wp2_with fail
      refine (doesServe_any legs souls _ _ _ _ cs bs A B _ (hs.below hw6) H0.out (by omega) (by omega)).mono ?_
      rintro e w7 ⟨rfl, hb7⟩
      have hw7 := bvia hw6 hb7
      have m7 := SlAt.below RInt.mono m6 hb7
      have l7 := SlAt.below RInt.mono l6 hb7
      clear k0 k1 k2 k3 hb7 hw6 m6 l6
      generalize P.war (P.base cs) cs.length A B = Z
      generalize P.orderL legs souls cs bs = ol at m7 l7 ⊢
      cases Z <;>
      ( go_wp2_with fail
        refine (sameInts_any _ _ _ _ ol ol _ m7 l7).mono ?_
        rintro e w8 ⟨rfl, hb8⟩
        go_wp2
        go_ret
        exact ⟨by simp, bvia hw7 hb8⟩ )
    · have s1 : P.servesE legs souls cs bs a b = 3 := by
        rw [P.servesE, if_pos H0.out, if_neg]
        simp [P.btw]
        omega
      have s2 : P.servesB legs souls cs bs a b = false := by rw [P.servesB, s1]; simp
      rw [s1, s2]
      clear s1 s2
      have key : decide (a < 0) = true ∨ (decide (a < 0) = false ∧ decide (b < 0) = true) ∨ (decide (a < 0) = false ∧ decide (b < 0) = false ∧ decide ((cs.length : Int) ≤ a) = true) ∨ (decide (a < 0) = false ∧ decide (b < 0) = false ∧ decide ((cs.length : Int) ≤ a) = false ∧ decide ((cs.length : Int) ≤ b) = true) := by
        simp only [decide_eq_true_eq, decide_eq_false_iff_not]
        omega
      clear hr
      rcases key with f1 | ⟨f1, f2⟩ | ⟨f1, f2, f3⟩ | ⟨f1, f2, f3, f4⟩
      all_goals (
        go_wp2_with fail
        refine (orderOf_any legs souls _ _ _ _ cs bs _ (hs.below hw3) H0.out).mono ?_
        rintro e w4 ⟨v4, rfl, own4, hb4⟩
        obtain ⟨ao4, cap4, rfl, l4⟩ := OwnI.at own4
        have e0 := cellIn hb4 d0
        have e1 := cellIn hb4 d1
        have e2 := cellIn hb4 d2
        have e3 := cellIn hb4 d3
        have hw4 := bvia hw3 hb4
        have m4 := SlAt.below RInt.mono l3 hb4
        clear d0 d1 d2 d3 hb4 hw3 l3 own4
        go_wp2_with fail
        refine (shipBegun_any _).mono ?_
        rintro e w5 ⟨rfl, hb5⟩
        have g0 := cellIn hb5 e0
        have g1 := cellIn hb5 e1
        have g2 := cellIn hb5 e2
        have g3 := cellIn hb5 e3
        have hw5 := bvia hw4 hb5
        have m5 := SlAt.below RInt.mono m4 hb5
        have l5 := SlAt.below RInt.mono l4 hb5
        clear e0 e1 e2 e3 hb5 hw4 m4 l4
        go_wp2_with fail
        refine (shipCheck_any legs souls _ _ _ _ cs bs _ (hs.below hw5)).mono ?_
        rintro e w6 ⟨rfl, hb6⟩
        rw [H0.out]
        have hw6 := bvia hw5 hb6
        have m6 := SlAt.below RInt.mono m5 hb6
        have l6 := SlAt.below RInt.mono l5 hb6
        clear g0 g1 g2 g3 hb6 hw5 m5 l5
        generalize P.orderL legs souls cs bs = ol at m6 l6 ⊢
        go_wp2_with fail
        refine (sameInts_any _ _ _ _ ol ol _ m6 l6).mono ?_
        rintro e w8 ⟨rfl, hb8⟩
        go_wp2
        go_ret
        exact ⟨by simp, bvia hw6 hb8⟩)
  · have s1 : P.servesE legs souls cs bs a b = P.shipE legs souls cs bs := by rw [P.servesE, if_neg h0]
    have s2 : P.servesB legs souls cs bs a b = false := by rw [P.servesB, s1]; simp [h0]
    have s3 : P.orderL legs souls cs bs = [] := by rw [P.orderL, if_neg h0]
    rw [s1, s2]
    rw [s3] at l3 ⊢
    clear s1 s2 s3
    have f0 : (P.shipE legs souls cs bs == 0) = false := beq_eq_false_iff_ne.2 h0
    clear h0
    go_wp2_with fail
    refine (shipBegun_any _).mono ?_
    rintro e w5 ⟨rfl, hb5⟩
    have g0 := cellIn hb5 d0
    have g1 := cellIn hb5 d1
    have g2 := cellIn hb5 d2
    have g3 := cellIn hb5 d3
    have hw5 := bvia hw3 hb5
    have m5 := SlAt.below RInt.mono l3 hb5
    clear d0 d1 d2 d3 hb5 hw3 l3
    go_wp2_with fail
    refine (shipCheck_any legs souls _ _ _ _ cs bs _ (hs.below hw5)).mono ?_
    rintro e w6 ⟨rfl, hb6⟩
    have hw6 := bvia hw5 hb6
    have m6 := SlAt.below RInt.mono m5 hb6
    clear g0 g1 g2 g3 hb6 hw5 m5
    generalize P.shipE legs souls cs bs = E at f0 ⊢
    go_wp2_with fail
    refine (sameInts_any _ _ _ _ [] [] _ m6 (SlAt.nilOf _)).mono ?_
    rintro e w8 ⟨rfl, hb8⟩
    go_wp2
    go_ret
    exact ⟨by simp, bvia hw6 hb8⟩

end Go.Proofs.Ytnadhpemmehedaa
