/- The walk of the reference's isName. -/
import Derived.Test.YtnadhpemmehedaaShipJ
namespace Go.Proofs.Ytnadhpemmehedaa
open Go.RowKit
set_option linter.unusedSimpArgs false
set_option linter.unusedVariables false

theorem between2_any (n a b : Int) (w : World) :
    Calls Try.prog 39 #[.int .i64 n, .int .i64 a, .int .i64 b] w fun e w' => e = .returned (.bool (P.btw n a b)) ∧ w' = w :=
  (between_any n a b w).mono fun e w' ⟨h1, h2⟩ => ⟨h1, h2.symm⟩

theorem sign_btw (c : Nat) : P.sign c = (P.btw c 65 90 || P.btw c 48 57) := by
  simp only [P.sign, P.btw]
  have e : ∀ a : Nat, decide ((a : Int) ≤ c) = decide (a ≤ c) ∧ decide ((c : Int) ≤ a) = decide (c ≤ a) := fun a => ⟨by rw [decide_eq_decide]; omega, by rw [decide_eq_decide]; omega⟩
  have e65 := e 65
  have e90 := e 90
  have e48 := e 48
  have e57 := e 57
  simp only [Int.cast_ofNat_Int] at e65 e90 e48 e57
  rw [e65.1, e90.2, e48.1, e57.2]

theorem name_no {s : ByteArray} {k : Nat} (hk : k < s.size) (h : P.sign (P.byteAt s k) = false) : P.name s = false := by
  rw [P.name]
  have : P.some (fun i => !P.sign (P.byteAt s i)) s.size = true := (some_iff _ _).2 ⟨k, hk, by simp [h]⟩
  rw [this]
  simp

theorem name_yes {s : ByteArray} (h : ∀ j, j < s.size → P.sign (P.byteAt s j) = true) : P.name s = P.btw s.size 1 8 := by
  rw [P.name]
  have : P.some (fun i => !P.sign (P.byteAt s i)) s.size = false := by
    cases e : P.some (fun i => !P.sign (P.byteAt s i)) s.size with
    | false => rfl
    | true =>
      obtain ⟨i, hi, h2⟩ := (some_iff _ _).1 e
      simp [h i hi] at h2
  rw [this]
  simp

set_option maxHeartbeats 1000000 in
theorem refName_any (s : ByteArray) (w : World) (hs : s.size ≤ maxLen) :
    Calls Try.prog 49 #[.string s] w fun e w' => e = .returned (.bool (P.name s)) ∧ w' = w := by
  have hs' : s.size ≤ 9223372036854775807 := by simpa only [maxLen] using hs
  clear hs
  go_enter Try.func49, Try.ntmps49
  go_wp2_with fail
  go_loopg [3] s.size (fun g i wx => ∃ (k : Nat), k ≤ s.size ∧ g = s.size - k ∧ i = .int .i64 k ∧ wx = w ∧ Aside (∀ j, j < k → P.sign (P.byteAt s j) = true))
  case atStart => exact ⟨0, Nat.zero_le _, rfl, rfl, rfl, fun j hj => by omega⟩
  case round =>
    obtain ⟨k, hk, rfl, rfl, rfl, HA⟩ := hrel
    by_cases hkl : k < s.size
    · have HE : Aside (P.byteAt s k = s[k].toNat) := byteAt_eq hkl
      have HS : Aside (P.sign (P.byteAt s k) = (P.btw s[k].toNat 65 90 || P.btw s[k].toNat 48 57)) := by show _ = _; rw [HE.out, sign_btw]
      have HW : Aside (wrap64 (s[k].toNat : Int) = s[k].toNat) := by show _ = _; have := s[k].toNat_lt; unfold wrap64; omega
      cases h1 : P.btw s[k].toNat 65 90
      · cases h2 : P.btw s[k].toNat 48 57
        · have HN : Aside (P.name s = false) := name_no hkl (by rw [HS.out, h1, h2]; rfl)
          go_wp2_with (go_at_call 39; rw [HW.out]; refine (between2_any _ _ _ _).mono ?_; rintro e w1 ⟨rfl, rfl⟩; first | rw [h1] | rw [h2])
          go_ret
          exact ⟨ret_bool HN.out.symm, rfl⟩
        · have HN : Aside (∀ j, j < k + 1 → P.sign (P.byteAt s j) = true) := fun j hj => by
            rcases Nat.lt_succ_iff_lt_or_eq.1 hj with h | rfl
            · exact HA.out j h
            · rw [HS.out, h1, h2]; rfl
          go_wp2_with (go_at_call 39; rw [HW.out]; refine (between2_any _ _ _ _).mono ?_; rintro e w1 ⟨rfl, rfl⟩; first | rw [h1] | rw [h2])
          go_roundg (s.size - (k + 1))
          case measure => omega
          case rel => exact ⟨k + 1, by omega, rfl, by go_num, rfl, HN⟩
      · have HN : Aside (∀ j, j < k + 1 → P.sign (P.byteAt s j) = true) := fun j hj => by
          rcases Nat.lt_succ_iff_lt_or_eq.1 hj with h | rfl
          · exact HA.out j h
          · rw [HS.out, h1]; rfl
        go_wp2_with (go_at_call 39; rw [HW.out]; refine (between2_any _ _ _ _).mono ?_; rintro e w1 ⟨rfl, rfl⟩; rw [h1])
        go_roundg (s.size - (k + 1))
        case measure => omega
        case rel => exact ⟨k + 1, by omega, rfl, by go_num, rfl, HN⟩
    · obtain rfl : k = s.size := by omega
      have HN : Aside (P.name s = P.btw s.size 1 8) := name_yes HA.out
      go_wp2_with (go_at_call 39; refine (between2_any _ _ _ _).mono ?_; rintro e w1 ⟨rfl, rfl⟩)
      go_ret
      exact ⟨ret_bool HN.out.symm, rfl⟩

end Go.Proofs.Ytnadhpemmehedaa
