/- Walks of fare.Check, checkPrice, sum, cost, Down. -/
import Derived.Test.YtagjlckmemmflacFarC
namespace Go.Proofs.Ytagjlckmemmflac
open Go.RowKit
set_option linter.unusedSimpArgs false
set_option linter.unusedVariables false

/-- E1. -/
def P.fareE (L : List (List Int)) (al th : Int) (B : List (Int × Int)) (dn c n : Int) : Int :=
  if P.btw c 1 5 = true ∧ P.btw n 1 7 = true then (if P.legsE L c n = 0 then (if P.btw al 0 200 = true ∧ P.btw th 0 100 = true ∧ P.btw dn 0 100 = true then P.bandsE B else 3) else P.legsE L c n) else 3

/-- Fares in memory: their two lists. -/
structure FareAt (w : World) (lo bo : Option Addr) (lc bc : Nat) (L : List (List Int)) (B : List (Int × Int)) : Prop where
  legs : RowsAt w lo lc L
  bands : PairsAt w bo bc B
theorem FareAt.below {w w' : World} {lo bo : Option Addr} {lc bc : Nat} {L : List (List Int)} {B : List (Int × Int)} (h : FareAt w lo bo lc bc L B) (hb : Below w.heap.size w w') : FareAt w' lo bo lc bc L B :=
  ⟨SlAt.below RRow.mono h.legs hb, SlAt.below RPair.mono h.bands hb⟩
abbrev V.fare (lo bo : Option Addr) (lc bc : Nat) (L : List (List Int)) (al th : Int) (B : List (Int × Int)) (dn : Int) : Value :=
  .agg #[.slice lo L.length lc, .int .i64 al, .int .i64 th, .slice bo B.length bc, .int .i64 dn]

set_option maxHeartbeats 2000000 in
theorem fareCheck_any (lo bo : Option Addr) (lc bc : Nat) (L : List (List Int)) (al th : Int) (B : List (Int × Int)) (dn c n : Int) (w : World) (hf : FareAt w lo bo lc bc L B) :
    Calls Try.prog 18 #[V.fare lo bo lc bc L al th B dn, .int .i64 c, .int .i64 n] w fun e w' => e = .returned (.int .i64 (P.fareE L al th B dn c n)) ∧ Below w.heap.size w w' := by
  cases h1 : P.btw c 1 5 <;> cases h2 : P.btw n 1 7
  · have HE : Aside (P.fareE L al th B dn c n = 3) := by show _ = _; simp [P.fareE, h1, h2]
    go_enter Try.func18, Try.ntmps18
    go_wp2_with (go_at_call 29; refine (within_any _ _ _ _).mono ?_; rintro e w1 ⟨rfl, rfl⟩; first | rw [h1] | rw [h2])
    go_ret
    exact ⟨ret_int HE.out.symm, by go_grown⟩
  · have HE : Aside (P.fareE L al th B dn c n = 3) := by show _ = _; simp [P.fareE, h1, h2]
    go_enter Try.func18, Try.ntmps18
    go_wp2_with (go_at_call 29; refine (within_any _ _ _ _).mono ?_; rintro e w1 ⟨rfl, rfl⟩; first | rw [h1] | rw [h2])
    go_ret
    exact ⟨ret_int HE.out.symm, by go_grown⟩
  · have HE : Aside (P.fareE L al th B dn c n = 3) := by show _ = _; simp [P.fareE, h1, h2]
    go_enter Try.func18, Try.ntmps18
    go_wp2_with (go_at_call 29; refine (within_any _ _ _ _).mono ?_; rintro e w1 ⟨rfl, rfl⟩; first | rw [h1] | rw [h2])
    go_ret
    exact ⟨ret_int HE.out.symm, by go_grown⟩
  · cases hz : (P.legsE L c n != 0)
    · have hz' : P.legsE L c n = 0 := by simpa using hz
      cases h3 : P.btw al 0 200 <;> cases h4 : P.btw th 0 100 <;> cases h5 : P.btw dn 0 100
      all_goals
        have HE : Aside (P.fareE L al th B dn c n = if P.btw al 0 200 = true ∧ P.btw th 0 100 = true ∧ P.btw dn 0 100 = true then P.bandsE B else 3) := by show _ = _; simp [P.fareE, h1, h2, hz']
        simp only [h3, h4, h5, Bool.false_eq_true, false_and, and_false, and_self, if_true, if_false, true_and] at HE
        clear hz'
        go_enter Try.func18, Try.ntmps18
        go_wp2_with (first
          | (go_at_call 29; refine (within_any _ _ _ _).mono ?_; rintro e w1 ⟨rfl, rfl⟩; first | rw [h1] | rw [h2] | rw [h3])
          | (go_at_call 40; refine (isPart_any _ _).mono ?_; rintro e w1 ⟨rfl, rfl⟩; first | rw [h4] | rw [h5])
          | (go_at_call 39; refine (checkLegs_any _ _ _ _ _ _ (SlAt.below RRow.mono hf.legs (by go_grown))).mono ?_; rintro e w2 ⟨rfl, hb2⟩; have c1 : w2.cell? ⟨w.heap.size, 1, none⟩ = some (.int .i64 al) := cellIn hb2 (by simp); have c2 : w2.cell? ⟨w.heap.size, 2, none⟩ = some (.int .i64 th) := cellIn hb2 (by simp); have c3 : w2.cell? ⟨w.heap.size, 3, none⟩ = some (.slice bo B.length bc) := cellIn hb2 (by simp); have c4 : w2.cell? ⟨w.heap.size, 4, none⟩ = some (.int .i64 dn) := cellIn hb2 (by simp); have hB2 : Below w.heap.size w w2 := bvia (by go_grown) hb2)
          | (go_at_call 41; refine (checkBands_any _ _ _ _ (SlAt.below RPair.mono hf.bands hB2)).mono ?_; rintro e w3 ⟨rfl, hb3⟩))
        go_ret
        first | exact ⟨ret_int HE.out.symm, bvia hB2 hb3⟩ | exact ⟨ret_int HE.out.symm, hB2⟩
    · have HE : Aside (P.fareE L al th B dn c n = P.legsE L c n) := by show _ = _; rw [P.fareE, if_pos ⟨h1, h2⟩, if_neg (by simpa using hz)]
      go_enter Try.func18, Try.ntmps18
      go_wp2_with (first
        | (go_at_call 29; refine (within_any _ _ _ _).mono ?_; rintro e w1 ⟨rfl, rfl⟩; first | rw [h1] | rw [h2])
        | (go_at_call 39; refine (checkLegs_any _ _ _ _ _ _ (SlAt.below RRow.mono hf.legs (by go_grown))).mono ?_; rintro e w2 ⟨rfl, hb2⟩))
      go_ret
      exact ⟨ret_int HE.out.symm, bvia (by go_grown) hb2⟩

/-- What of fares is right. -/
theorem fareE_zero {L : List (List Int)} {al th : Int} {B : List (Int × Int)} {dn c n : Int} (h : P.fareE L al th B dn c n = 0) :
    (1 ≤ c ∧ c ≤ 5) ∧ (1 ≤ n ∧ n ≤ 7) ∧ (L.length : Int) = c ∧ (∀ r ∈ L, (r.length : Int) = n ∧ ∀ x ∈ r, 0 ≤ x ∧ x ≤ 100000) ∧ (0 ≤ al ∧ al ≤ 200) ∧ (0 ≤ th ∧ th ≤ 100) ∧ (0 ≤ dn ∧ dn ≤ 100) ∧ P.bandsE B = 0 := by
  unfold P.fareE at h
  split at h
  · rename_i h1
    split at h
    · rename_i h2
      split at h
      · rename_i h3
        simp only [P.btw, Bool.and_eq_true, decide_eq_true_eq] at h1 h3
        unfold P.legsE at h2
        split at h2
        · rename_i h4
          split at h2
          · omega
          · rename_i h5
            split at h2
            · omega
            · rename_i h6
              refine ⟨h1.1, h1.2, h4, fun r hr => ⟨?_, fun x hx => ?_⟩, h3.1, h3.2.1, h3.2.2, h⟩
              · have h5' := (Bool.not_eq_true _).mp h5
                rw [List.any_eq_false] at h5'
                have := h5' r hr
                simpa using this
              · have h6' := (Bool.not_eq_true _).mp h6
                rw [List.any_eq_false] at h6'
                have := h6' r hr
                rw [P.badRow, Bool.not_eq_true, List.any_eq_false] at this
                have := this x hx
                simpa [P.btw] using this
        · omega
      · omega
    · omega
  · omega

def P.tot : List Int → Int
  | [] => 0
  | x :: r => x + P.tot r
theorem tot_append (a b : List Int) : P.tot (a ++ b) = P.tot a + P.tot b := by
  induction a with
  | nil => simp [P.tot]
  | cons x a ih => simp only [List.cons_append, P.tot, ih]; omega
theorem tot_in {l : List Int} {m : Nat} (h : ∀ x ∈ l, 0 ≤ x ∧ x ≤ 100000) (hm : l.length ≤ m) : 0 ≤ P.tot l ∧ P.tot l ≤ 100000 * m := by
  induction l generalizing m with
  | nil => simp [P.tot]; omega
  | cons x l ih =>
    have h1 := h x (by simp)
    simp at hm
    have h2 := @ih (m - 1) (fun y hy => h y (by simp [hy])) (by omega)
    simp only [P.tot]
    omega

set_option maxHeartbeats 1000000 in
theorem sum_any (ao : Option Addr) (cap : Nat) (l : List Int) (w : World) (hl : IntsAt w ao cap l) (hx : ∀ x ∈ l, 0 ≤ x ∧ x ≤ 100000) (hlen : l.length ≤ 7) :
    Calls Try.prog 32 #[.slice ao l.length cap] w fun e w' => e = .returned (.int .i64 (P.tot l)) ∧ w = w' := by
  have hle := hl.le
  have hmx := hl.max
  unfold maxLen at hmx
  have HX : Aside (∀ x ∈ l, 0 ≤ x ∧ x ≤ 100000) := hx
  clear hx
  go_enter Try.func32, Try.ntmps32
  go_wp2
  go_loopg [3, 8] l.length (fun g a i wr => ∃ (k : Nat) (s : Int), k ≤ l.length ∧ g = l.length - k ∧ i = .int .i64 k ∧ a = .int .i64 s ∧ s + P.tot (l.drop k) = P.tot l ∧ 0 ≤ s ∧ s ≤ k * 100000 ∧ wr = w)
  case atStart => exact ⟨0, 0, Nat.zero_le _, rfl, rfl, rfl, by simp, by omega, by omega, rfl⟩
  case round =>
    obtain ⟨k, s, hk, rfl, rfl, rfl, hP, hs0, hs1, rfl⟩ := hrel
    have HP : Aside (s + P.tot (l.drop k) = P.tot l) := hP
    clear hP
    by_cases hlt : k < l.length
    · obtain ⟨b, off, x, rfl, hbw, hd, hc0⟩ := hl.get (Below.refl _ _) k hlt
      have hx := HX.out x (memA hlt hd)
      have HP' : Aside (s + x + P.tot (l.drop (k + 1)) = P.tot l) := by
        have := HP.out
        rw [hd, P.tot] at this
        show _ = _
        omega
      clear hd HP
      go_wp2
      go_roundg (l.length - (k + 1))
      case measure => omega
      case rel => exact ⟨k + 1, s + x, by omega, rfl, by go_num, rfl, HP'.out, by omega, by omega, rfl⟩
    · obtain rfl : k = l.length := by omega
      have h := HP.out
      rw [List.drop_of_length_le (Nat.le_refl _), P.tot] at h
      have HQ : Aside (s = P.tot l) := by show _ = _; omega
      clear HP h
      go_wp2
      go_ret
      exact ⟨ret_int HQ.out, rfl⟩

theorem mul_in {a b m n : Int} (ha : 0 ≤ a ∧ a ≤ m) (hb : 0 ≤ b ∧ b ≤ n) : 0 ≤ a * b ∧ a * b ≤ m * n :=
  ⟨Int.mul_nonneg ha.1 hb.1, Int.mul_le_mul ha.2 hb.2 hb.1 (Int.le_trans ha.1 ha.2)⟩

/-- E2: what so many guests pay, the sum of the legs being s. -/
def P.cost (al th s g : Int) : Int := if g = 1 then s + P.part s al else 2 * s + (g - 2) * P.part s th
theorem part_in {a h m : Int} (ha : 0 ≤ a ∧ a ≤ m) (hh : 0 ≤ h ∧ h ≤ 100) : 0 ≤ P.part a h ∧ P.part a h ≤ m := by
  have h1 := mul_in ha hh
  have h2 : a * h ≤ a * 100 := Int.mul_le_mul_of_nonneg_left hh.2 ha.1
  unfold P.part
  omega
theorem part_in2 {a h m : Int} (ha : 0 ≤ a ∧ a ≤ m) (hh : 0 ≤ h ∧ h ≤ 200) : 0 ≤ P.part a h ∧ P.part a h ≤ 2 * m := by
  have h1 := mul_in ha hh
  have h2 : a * h ≤ a * 200 := Int.mul_le_mul_of_nonneg_left hh.2 ha.1
  unfold P.part
  omega

set_option maxHeartbeats 1000000 in
theorem cost_any (lo bo : Option Addr) (lc bc : Nat) (L : List (List Int)) (al th : Int) (B : List (Int × Int)) (dn s g : Int) (w : World)
    (hs : 0 ≤ s ∧ s ≤ 700000) (hal : 0 ≤ al ∧ al ≤ 200) (hth : 0 ≤ th ∧ th ≤ 100) (hg : 1 ≤ g ∧ g ≤ 4) :
    Calls Try.prog 31 #[V.fare lo bo lc bc L al th B dn, .int .i64 s, .int .i64 g] w fun e w' => e = .returned (.int .i64 (P.cost al th s g)) ∧ Below w.heap.size w w' := by
  have m1 := mul_in hs hal
  have m2 := mul_in hs hth
  have p1 := part_in2 hs hal
  have p2 := part_in hs hth
  by_cases h1 : g = 1
  · have HC : Aside (P.cost al th s g = s + P.part s al) := by show _ = _; rw [P.cost, if_pos h1]
    have h1' : (g == 1) = true := by simpa using h1
    clear h1
    go_enter Try.func31, Try.ntmps31
    go_wp2_with (go_at_call 34; refine (part_any _ _ _ (by omega) (by omega)).mono ?_; rintro e w1 ⟨rfl, rfl⟩)
    go_ret
    exact ⟨ret_int HC.out.symm, by go_grown⟩
  · have HC : Aside (P.cost al th s g = 2 * s + (g - 2) * P.part s th) := by show _ = _; rw [P.cost, if_neg h1]
    have h1' : (g == 1) = false := by simpa using h1
    have m3 := mul_in (a := g - 2) (m := 2) (by omega) p2
    go_enter Try.func31, Try.ntmps31
    go_wp2_with (go_at_call 34; refine (part_any _ _ _ (by omega) (by omega)).mono ?_; rintro e w1 ⟨rfl, rfl⟩)
    go_ret
    exact ⟨ret_int HC.out.symm, by go_grown⟩

def P.fareP (L : List (List Int)) (al th : Int) (B : List (Int × Int)) (dn c n p : Int) : Int := if P.fareE L al th B dn c n = 0 then (if P.btw p 0 100000000 = true then 0 else 3) else P.fareE L al th B dn c n

set_option maxHeartbeats 1000000 in
theorem checkPrice_any (lo bo : Option Addr) (lc bc : Nat) (L : List (List Int)) (al th : Int) (B : List (Int × Int)) (dn c n p : Int) (w : World) (hf : FareAt w lo bo lc bc L B) :
    Calls Try.prog 33 #[V.fare lo bo lc bc L al th B dn, .int .i64 c, .int .i64 n, .int .i64 p] w fun e w' => e = .returned (.int .i64 (P.fareP L al th B dn c n p)) ∧ Below w.heap.size w w' := by
  cases hz : (P.fareE L al th B dn c n != 0)
  · cases h1 : P.btw p 0 100000000
    all_goals
      have HE : Aside (P.fareP L al th B dn c n p = if P.btw p 0 100000000 = true then 0 else 3) := by show _ = _; rw [P.fareP, if_pos (by simpa using hz)]
      simp only [h1, Bool.false_eq_true, if_true, if_false] at HE
      go_enter Try.func33, Try.ntmps33
      go_wp2_with (first
        | (go_at_call 18; refine (fareCheck_any _ _ _ _ _ _ _ _ _ _ _ _ (hf.below (by go_grown))).mono ?_; rintro e w1 ⟨rfl, hb1⟩)
        | (go_at_call 29; refine (within_any _ _ _ _).mono ?_; rintro e w2 ⟨rfl, rfl⟩; rw [h1]))
      go_ret
      exact ⟨ret_int HE.out.symm, bvia (by go_grown) hb1⟩
  · have HE : Aside (P.fareP L al th B dn c n p = P.fareE L al th B dn c n) := by show _ = _; rw [P.fareP, if_neg (by simpa using hz)]
    go_enter Try.func33, Try.ntmps33
    go_wp2_with (go_at_call 18; refine (fareCheck_any _ _ _ _ _ _ _ _ _ _ _ _ (hf.below (by go_grown))).mono ?_; rintro e w1 ⟨rfl, hb1⟩)
    go_ret
    exact ⟨ret_int HE.out.symm, bvia (by go_grown) hb1⟩

theorem fareP_zero {L : List (List Int)} {al th : Int} {B : List (Int × Int)} {dn c n p : Int} (h : P.fareP L al th B dn c n p = 0) : P.fareE L al th B dn c n = 0 ∧ 0 ≤ p ∧ p ≤ 100000000 := by
  unfold P.fareP at h
  split at h
  · rename_i h1
    split at h
    · rename_i h2
      simp [P.btw] at h2
      exact ⟨h1, h2.1, h2.2⟩
    · omega
  · contradiction

theorem ret2_ii {a b a' b' : Int} (h : a = a') (k : b = b') : Ending.returned (.tuple #[.int .i64 a, .int .i64 b]) = .returned (.tuple #[.int .i64 a', .int .i64 b']) := by rw [h, k]

def P.down (L : List (List Int)) (al th : Int) (B : List (Int × Int)) (dn c n p : Int) : Int := if P.fareP L al th B dn c n p = 0 then P.part p dn else 0

set_option maxHeartbeats 1000000 in
theorem down_any (lo bo : Option Addr) (lc bc : Nat) (L : List (List Int)) (al th : Int) (B : List (Int × Int)) (dn c n p : Int) (w : World) (hf : FareAt w lo bo lc bc L B) :
    Calls Try.prog 10 #[V.fare lo bo lc bc L al th B dn, .int .i64 c, .int .i64 n, .int .i64 p] w fun e w' => e = .returned (.tuple #[.int .i64 (P.down L al th B dn c n p), .int .i64 (P.fareP L al th B dn c n p)]) ∧ Below w.heap.size w w' := by
  cases hz : (P.fareP L al th B dn c n p != 0)
  · have hz' : P.fareP L al th B dn c n p = 0 := by simpa using hz
    obtain ⟨h1, h2, h3⟩ := fareP_zero hz'
    obtain ⟨_, _, _, _, _, _, h4, _⟩ := fareE_zero h1
    have m1 := mul_in (m := 100000000) ⟨h2, h3⟩ h4
    have HD : Aside (P.down L al th B dn c n p = P.part p dn) := by show _ = _; rw [P.down, if_pos hz']
    have HE : Aside (P.fareP L al th B dn c n p = 0) := hz'
    clear hz' h1
    go_enter Try.func10, Try.ntmps10
    go_wp2_with (first
      | (go_at_call 33; refine (checkPrice_any _ _ _ _ _ _ _ _ _ _ _ _ _ (hf.below (by go_grown))).mono ?_; rintro e w1 ⟨rfl, hb1⟩; have c4 : w1.cell? ⟨w.heap.size, 4, none⟩ = some (.int .i64 dn) := cellIn hb1 (by simp))
      | (go_at_call 34; refine (part_any _ _ _ (by omega) (by omega)).mono ?_; rintro e w2 ⟨rfl, rfl⟩))
    go_ret2
    exact ⟨ret2_ii HD.out.symm HE.out.symm, bvia (by go_grown) hb1⟩
  · have HD : Aside (P.down L al th B dn c n p = 0) := by show _ = _; rw [P.down, if_neg (by simpa using hz)]
    go_enter Try.func10, Try.ntmps10
    go_wp2_with (go_at_call 33; refine (checkPrice_any _ _ _ _ _ _ _ _ _ _ _ _ _ (hf.below (by go_grown))).mono ?_; rintro e w1 ⟨rfl, hb1⟩)
    go_ret2
    exact ⟨ret2_ii HD.out.symm rfl, bvia (by go_grown) hb1⟩

end Go.Proofs.Ytagjlckmemmflac
