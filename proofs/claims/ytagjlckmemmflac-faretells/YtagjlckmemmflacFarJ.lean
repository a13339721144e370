/- Walks of the document's PriceOf and PenaltyOf. -/
import Derived.Test.YtagjlckmemmflacFarH
namespace Go.Proofs.Ytagjlckmemmflac
open Go.RowKit
set_option linter.unusedSimpArgs false
set_option linter.unusedVariables false

theorem seg_step {r : List Int} {i t : Nat} {x : Int} (hi : i < t) (hd : r.drop i = x :: r.drop (i + 1)) : P.seg r i t = x :: P.seg r (i + 1) t := by
  unfold P.seg
  rw [hd, show t - i = (t - (i + 1)) + 1 by omega, List.take_succ_cons]
theorem seg_end (r : List Int) (t : Nat) : P.seg r t t = [] := by simp [P.seg]

/-- What the first j guests pay. -/
def P.pay (S Q : Int) : Nat → Int
  | 0 => 0
  | 1 => S
  | 2 => 2 * S
  | 3 => 2 * S + Q
  | _ => 2 * S + 2 * Q

set_option maxHeartbeats 4000000 in
theorem priceOf_any (lo bo : Option Addr) (lc bc : Nat) (L : List (List Int)) (al th : Int) (B : List (Int × Int)) (dn c n k f t g : Int) (w : World) (hf : FareAt w lo bo lc bc L B) (hz : P.priceE L al th B dn c n k f t g = 0) :
    Calls Try.prog 14 #[V.fare lo bo lc bc L al th B dn, .int .i64 k, .agg #[.int .i64 f, .int .i64 t], .int .i64 g] w fun e w' => e = .returned (.int .i64 (P.price L al th B dn c n k f t g)) ∧ Below w.heap.size w w' := by
  have hle := hf.legs.le
  have hmx := hf.legs.max
  unfold maxLen at hmx
  obtain ⟨z1, kk, z3, kg⟩ := priceE_zero hz
  have HV : Aside (P.price L al th B dn c n k f t g = P.cost al th (P.legSum L k f t) g) := by show _ = _; rw [P.price, if_pos hz]
  have hs := legSum_in z1 kk z3
  obtain ⟨k1, k2, k3, k4, k5, k6, k7, _⟩ := fareE_zero z1
  obtain ⟨s1, s2, s3, _, _, _⟩ := chk_zero z3
  clear hz z1 z3
  obtain ⟨K, rfl⟩ : ∃ K : Nat, k = K := ⟨k.toNat, by omega⟩
  obtain ⟨f, rfl⟩ : ∃ F : Nat, f = F := ⟨f.toNat, by omega⟩
  obtain ⟨t, rfl⟩ : ∃ T : Nat, t = T := ⟨t.toNat, by omega⟩
  obtain ⟨G, rfl⟩ : ∃ G : Nat, g = G := ⟨g.toNat, by omega⟩
  have hKl : K < L.length := by omega
  obtain ⟨b, off, r, ro, rc, rfl, hbw, hd, hc0, hr⟩ := RowsAt.get hf.legs (Below.refl _ _) K hKl
  have hrm := k4 r (memA hKl hd)
  have HLS : Aside (P.legSum L K f t = P.tot (P.seg r f t)) := by
    have := getA hKl hd
    show _ = _
    simp [P.legSum, hKl, this]
  have hrl : t ≤ r.length := by omega
  have HX : Aside (∀ x ∈ r, 0 ≤ x ∧ x ≤ 100000) := hrm.2
  have hi1 : (K : Int) < (L.length : Int) := by omega
  have hrle := hr.le
  have hrmx := hr.max
  unfold maxLen at hrmx
  clear hd hrm k4 k3
  have p1 := part_in2 hs k5
  have p2 := part_in hs k6
  have m1 := mul_in hs k5
  have m2 := mul_in hs k6
  go_enter Try.func14, Try.ntmps14
  go_wp2
  go_loopg [9, 10] (t - f) (fun g a i wr => ∃ (j : Nat) (s : Int), f ≤ j ∧ j ≤ t ∧ g = t - j ∧ i = .int .i64 j ∧ a = .int .i64 s ∧ s + P.tot (P.seg r j t) = P.legSum L K f t ∧ 0 ≤ s ∧ s ≤ (j - f : Nat) * 100000 ∧ wr = (w.alloc (.cells #[.slice (some ⟨b, off, none⟩) L.length lc, .int .i64 al, .int .i64 th, .slice bo B.length bc, .int .i64 dn] 25)).alloc (.cells #[.int .i64 f, .int .i64 t] 27))
  case atStart => exact ⟨f, 0, Nat.le_refl _, by omega, rfl, rfl, rfl, by rw [HLS.out]; omega, by omega, by omega, rfl⟩
  case round =>
    obtain ⟨j, s, hfj, hjt, rfl, rfl, rfl, hP, hs0, hs1, rfl⟩ := hrel
    have HP : Aside (s + P.tot (P.seg r j t) = P.legSum L K f t) := hP
    clear hP
    by_cases hlt : j < t
    · obtain ⟨b2, off2, x, rfl, hbw2, hd2, hc2⟩ := hr.get (Below.refl _ _) j (by omega)
      have hx := HX.out x (memA (by omega) hd2)
      have HP' : Aside (s + x + P.tot (P.seg r (j + 1) t) = P.legSum L K f t) := by
        have := HP.out
        rw [seg_step hlt hd2, P.tot] at this
        show _ = _
        omega
      clear hd2 HP
      have hj1 : (j : Int) < (r.length : Int) := by omega
      go_wp2
      go_roundg (t - (j + 1))
      case measure => omega
      case rel => exact ⟨j + 1, s + x, by omega, by omega, rfl, by go_num, rfl, HP'.out, by omega, by omega, rfl⟩
    · obtain rfl : j = t := by omega
      have hS : s = P.legSum L K f j := by
        have := HP.out
        rw [seg_end, P.tot] at this
        omega
      clear HP HLS
      rw [← hS] at hs p1 p2 m1 m2 HV
      clear hS hs0 hs1
      generalize hQ : P.part s th = Q at p2
      have HQ : Aside (P.part s th = Q) := hQ
      clear hQ
      go_wp2
      go_loopg [11, 12] G (fun g o i wr => ∃ (i' : Nat), i' ≤ G ∧ g = G - i' ∧ i = .int .i64 (i' + 1 : Nat) ∧ o = .int .i64 (P.pay s Q i') ∧ wr = (w.alloc (.cells #[.slice (some ⟨b, off, none⟩) L.length lc, .int .i64 al, .int .i64 th, .slice bo B.length bc, .int .i64 dn] 25)).alloc (.cells #[.int .i64 f, .int .i64 j] 27))
      case atStart => exact ⟨0, Nat.zero_le _, rfl, rfl, rfl, rfl⟩
      case round =>
        obtain ⟨i', hi', rfl, rfl, rfl, rfl⟩ := hrel
        by_cases hig : i' < G
        · rcases (show i' = 0 ∨ i' = 1 ∨ i' = 2 ∨ i' = 3 by omega) with rfl | rfl | rfl | rfl
          all_goals
            simp only [P.pay]
            go_wp2_with (go_at_call 15; refine (partOf_any _ _ _ (by omega) (by omega)).mono ?_; rintro e w2 ⟨rfl, rfl⟩; rw [HQ.out])
          · go_roundg (G - 1)
            case measure => omega
            case rel => exact ⟨1, by omega, rfl, by go_num, by simp [P.pay], rfl⟩
          · go_roundg (G - 2)
            case measure => omega
            case rel => exact ⟨2, by omega, rfl, by go_num, by simp [P.pay]; omega, rfl⟩
          · go_roundg (G - 3)
            case measure => omega
            case rel => exact ⟨3, by omega, rfl, by go_num, by simp [P.pay], rfl⟩
          · go_roundg (G - 4)
            case measure => omega
            case rel => exact ⟨4, by omega, rfl, by go_num, by simp [P.pay]; omega, rfl⟩
        · obtain rfl : i' = G := by omega
          rcases (show i' = 1 ∨ i' = 2 ∨ i' = 3 ∨ i' = 4 by omega) with rfl | rfl | rfl | rfl
          all_goals
            simp only [P.pay]
            go_wp2_with (go_at_call 15; refine (partOf_any _ _ _ (by omega) (by omega)).mono ?_; rintro e w2 ⟨rfl, rfl⟩)
            go_ret
          · exact ⟨ret_int (by rw [HV.out]; simp [P.cost]), by go_grown⟩
          · exact ⟨ret_int (by rw [HV.out]; simp [P.cost]), by go_grown⟩
          · exact ⟨ret_int (by rw [HV.out]; simp [P.cost, HQ.out]), by go_grown⟩
          · exact ⟨ret_int (by rw [HV.out]; simp [P.cost, HQ.out]), by go_grown⟩

set_option maxHeartbeats 2000000 in
theorem penaltyOf_any (lo bo : Option Addr) (lc bc : Nat) (L : List (List Int)) (al th : Int) (B : List (Int × Int)) (dn p d : Int) (w : World) (hf : FareAt w lo bo lc bc L B) (hB : ∀ x ∈ B, 0 ≤ x.2 ∧ x.2 ≤ 100) (hp : 0 ≤ p ∧ p ≤ 100000000) :
    Calls Try.prog 16 #[V.fare lo bo lc bc L al th B dn, .int .i64 p, .int .i64 d] w fun e w' => e = .returned (.int .i64 (P.penV B p d)) ∧ Below w.heap.size w w' := by
  have hle := hf.bands.le
  have hmx := hf.bands.max
  unfold maxLen at hmx
  have HB : Aside (∀ x ∈ B, 0 ≤ x.2 ∧ x.2 ≤ 100) := hB
  clear hB
  go_enter Try.func16, Try.ntmps16
  go_wp2
  go_loopg [7] B.length (fun g i wr => ∃ (k : Nat), k ≤ B.length ∧ g = B.length - k ∧ i = .int .i64 k ∧ (B.drop k).find? (fun x => decide (d ≤ x.1)) = P.band B d ∧ wr = w.alloc (.cells #[.slice lo L.length lc, .int .i64 al, .int .i64 th, .slice bo B.length bc, .int .i64 dn] 25))
  case atStart => exact ⟨0, Nat.zero_le _, rfl, rfl, rfl, rfl⟩
  case round =>
    obtain ⟨k, hk, rfl, rfl, hP, rfl⟩ := hrel
    have HP : Aside ((B.drop k).find? (fun x => decide (d ≤ x.1)) = P.band B d) := hP
    clear hP
    by_cases hlt : k < B.length
    · obtain ⟨b, off, x, y, rfl, hbw, hd, hc0, hc1⟩ := PairsAt.get hf.bands (w' := w.alloc (.cells #[.slice lo L.length lc, .int .i64 al, .int .i64 th, .slice bo B.length bc, .int .i64 dn] 25)) (by go_grown) k hlt
      have HD : Aside (B.drop k = (x, y) :: B.drop (k + 1)) := hd
      have hy := HB.out _ (memA hlt hd)
      simp only at hy
      have m1 := mul_in hp hy
      clear hd
      by_cases hx : d ≤ x
      · have HW : Aside (P.penV B p d = P.part p y) := by
          have := find_hit (p := fun x => decide (d ≤ x.1)) HP.out HD.out (by simpa using hx)
          show _ = _
          rw [P.penV, P.band, this]
        go_wp2_with (go_at_call 15; refine (partOf_any _ _ _ (by omega) (by omega)).mono ?_; rintro e w2 ⟨rfl, rfl⟩)
        go_ret
        exact ⟨ret_int HW.out.symm, by go_grown⟩
      · go_wp2
        go_roundg (B.length - (k + 1))
        case measure => omega
        case rel => exact ⟨k + 1, by omega, rfl, by go_num, find_on (p := fun x => decide (d ≤ x.1)) HP.out HD.out (by simpa using hx), rfl⟩
    · obtain rfl : k = B.length := by omega
      have HW : Aside (P.penV B p d = 0) := by
        have := find_none (p := fun x : Int × Int => decide (d ≤ x.1)) HP.out
        show _ = _
        rw [P.penV, P.band, this]
      go_wp2
      go_ret
      exact ⟨ret_int HW.out.symm, by go_grown⟩

end Go.Proofs.Ytagjlckmemmflac
