/- Walk of the document's CheckFares. -/
import Derived.Test.YtagjlckmemmflacFarF
namespace Go.Proofs.Ytagjlckmemmflac
open Go.RowKit
set_option linter.unusedSimpArgs false
set_option linter.unusedVariables false

/-- The world behind the box that holds the fares. -/
abbrev W.fare (w : World) (lo bo : Option Addr) (lc bc : Nat) (L : List (List Int)) (al th : Int) (B : List (Int × Int)) (dn : Int) : World :=
  w.alloc (.cells #[.slice lo L.length lc, .int .i64 al, .int .i64 th, .slice bo B.length bc, .int .i64 dn] 25)

theorem bands_first {B : List (Int × Int)} {x y : Int} {r : List (Int × Int)} (h1 : P.btw x 0 999 = true) (h2 : P.btw y 0 100 = true) : P.bands (-1) 100 ((x, y) :: r) = P.bands x y r := by
  rw [P.bands, if_pos ⟨h1, h2⟩, if_neg]
  simp only [P.btw, Bool.and_eq_true, decide_eq_true_eq] at h1 h2
  simp only
  omega

set_option maxHeartbeats 8000000 in
set_option maxRecDepth 4000 in
theorem checkFares_any (lo bo : Option Addr) (lc bc : Nat) (L : List (List Int)) (al th : Int) (B : List (Int × Int)) (dn c n : Int) (w : World) (hf : FareAt w lo bo lc bc L B) :
    Calls Try.prog 12 #[V.fare lo bo lc bc L al th B dn, .int .i64 c, .int .i64 n] w fun e w' => e = .returned (.int .i64 (P.fareE L al th B dn c n)) ∧ Below w.heap.size w w' := by
  have hle := hf.legs.le
  have hmx := hf.legs.max
  have hle2 := hf.bands.le
  have hmx2 := hf.bands.max
  unfold maxLen at hmx hmx2
  cases h1 : P.btw c 1 5
  · have HE : Aside (P.fareE L al th B dn c n = 3) := by show _ = _; simp [P.fareE, h1]
    go_enter Try.func12, Try.ntmps12
    go_wp2_with (go_at_call 37; refine (between_any _ _ _ _).mono ?_; rintro e w1 ⟨rfl, rfl⟩; rw [h1])
    go_ret
    exact ⟨ret_int HE.out.symm, by go_grown⟩
  cases h2 : P.btw n 1 7
  · have HE : Aside (P.fareE L al th B dn c n = 3) := by show _ = _; simp [P.fareE, h2]
    go_enter Try.func12, Try.ntmps12
    go_wp2_with (go_at_call 37; refine (between_any _ _ _ _).mono ?_; rintro e w1 ⟨rfl, rfl⟩; first | rw [h1] | rw [h2])
    go_ret
    exact ⟨ret_int HE.out.symm, by go_grown⟩
  by_cases h3 : (L.length : Int) = c
  rotate_left
  · have HE : Aside (P.fareE L al th B dn c n = 1) := by show _ = _; simp [P.fareE, h1, h2, P.legsE, h3]
    have h3' : ((L.length : Int) != c) = true := by simpa using h3
    go_enter Try.func12, Try.ntmps12
    go_wp2_with (go_at_call 37; refine (between_any _ _ _ _).mono ?_; rintro e w1 ⟨rfl, rfl⟩; first | rw [h1] | rw [h2])
    go_ret
    exact ⟨ret_int HE.out.symm, by go_grown⟩
  have HE : Aside (P.fareE L al th B dn c n = if L.any (fun r => decide ((r.length : Int) ≠ n)) = true then 1 else if L.any P.badRow = true then 3 else (if P.btw al 0 200 = true ∧ P.btw th 0 100 = true ∧ P.btw dn 0 100 = true then P.bandsE B else 3)) := by
    show _ = _
    rw [P.fareE, if_pos ⟨h1, h2⟩, P.legsE, if_pos h3]
    cases L.any (fun r => decide ((r.length : Int) ≠ n)) <;> cases L.any P.badRow <;> simp
  have h3' : ((L.length : Int) != c) = false := by simpa using h3
  have hn17 : 1 ≤ n ∧ n ≤ 7 := by simpa [P.btw] using h2
  clear h3
  go_enter Try.func12, Try.ntmps12
  go_wp2_with (go_at_call 37; refine (between_any _ _ _ _).mono ?_; rintro e w1 ⟨rfl, rfl⟩; first | rw [h1] | rw [h2])
  clear h1 h2 h3'
  go_loopg [7] L.length (fun g i wr => ∃ (k : Nat), k ≤ L.length ∧ g = L.length - k ∧ i = .int .i64 k ∧ (L.drop k).any (fun r => decide ((r.length : Int) ≠ n)) = L.any (fun r => decide ((r.length : Int) ≠ n)) ∧ wr = W.fare w lo bo lc bc L al th B dn)
  case atStart => exact ⟨0, Nat.zero_le _, rfl, rfl, rfl, rfl⟩
  case round =>
    obtain ⟨k, hk, rfl, rfl, hP, rfl⟩ := hrel
    have HP : Aside ((L.drop k).any (fun r => decide ((r.length : Int) ≠ n)) = L.any (fun r => decide ((r.length : Int) ≠ n))) := hP
    clear hP
    by_cases hlt : k < L.length
    · obtain ⟨b, off, r, ro, rc, rfl, hbw, hd, hc0, hr⟩ := RowsAt.get hf.legs (w' := W.fare w lo bo lc bc L al th B dn) (by go_grown) k hlt
      have HD : Aside (L.drop k = r :: L.drop (k + 1)) := hd
      have hrl := hr.le
      have hrm := hr.max
      unfold maxLen at hrm
      clear hd hr
      by_cases hrn : (r.length : Int) = n
      · have hrn' : ((r.length : Int) != n) = false := by simpa using hrn
        have HR : Aside (decide ((r.length : Int) ≠ n) = false) := by show _ = _; simpa using hrn
        clear hrn
        go_wp2
        go_roundg (L.length - (k + 1))
        case measure => omega
        case rel => exact ⟨k + 1, by omega, rfl, by go_num, any_on HP.out HD.out HR.out, rfl⟩
      · have hrn' : ((r.length : Int) != n) = true := by simpa using hrn
        have HR : Aside (decide ((r.length : Int) ≠ n) = true) := by show _ = _; simpa using hrn
        go_wp2
        go_ret
        exact ⟨ret_int (by rw [HE.out, any_hit hlt HD.out HR.out]; rfl), by go_grown⟩
    · obtain rfl : k = L.length := by omega
      have hA := any_none HP.out
      have HA : Aside (∀ r ∈ L, (r.length : Int) = n) := fun r hr => by
        rw [List.any_eq_false] at hA
        simpa using hA r hr
      have HE2 : Aside (P.fareE L al th B dn c n = if L.any P.badRow = true then 3 else (if P.btw al 0 200 = true ∧ P.btw th 0 100 = true ∧ P.btw dn 0 100 = true then P.bandsE B else 3)) := by
        show _ = _
        rw [HE.out, hA]
        rfl
      clear HP hA HE hk hlt
      go_wp2
      go_loopg [8] L.length (fun g i wr => ∃ (k : Nat), k ≤ L.length ∧ g = L.length - k ∧ i = .int .i64 k ∧ (L.drop k).any P.badRow = L.any P.badRow ∧ wr = W.fare w lo bo lc bc L al th B dn)
      case atStart => exact ⟨0, Nat.zero_le _, rfl, rfl, rfl, rfl⟩
      case round =>
        obtain ⟨k, hk, rfl, rfl, hP, rfl⟩ := hrel
        have HP : Aside ((L.drop k).any P.badRow = L.any P.badRow) := hP
        clear hP
        by_cases hlt : k < L.length
        · obtain ⟨b, off, r, ro, rc, rfl, hbw, hd, hc0, hr⟩ := RowsAt.get hf.legs (w' := W.fare w lo bo lc bc L al th B dn) (by go_grown) k hlt
          have HD : Aside (L.drop k = r :: L.drop (k + 1)) := hd
          have hrl := hr.le
          have hrm := hr.max
          unfold maxLen at hrm
          have HRN : Aside ((r.length : Int) = n) := HA.out r (memA hlt hd)
          clear hd
          go_wp2
          go_loopg [9] r.length (fun g i wr => ∃ (j : Nat), j ≤ r.length ∧ g = r.length - j ∧ i = .int .i64 j ∧ (r.drop j).any (fun x => !P.btw x 0 100000) = P.badRow r ∧ wr = W.fare w (some ⟨b, off, none⟩) bo lc bc L al th B dn)
          case atStart => exact ⟨0, Nat.zero_le _, rfl, rfl, rfl, rfl⟩
          case round =>
            obtain ⟨j, hj, rfl, rfl, hQ, rfl⟩ := hrel
            have HQ : Aside ((r.drop j).any (fun x => !P.btw x 0 100000) = P.badRow r) := hQ
            clear hQ
            by_cases hjl : j < r.length
            · obtain ⟨b2, off2, x, rfl, hbw2, hd2, hc2⟩ := hr.get (Below.refl _ _) j hjl
              have HD2 : Aside (r.drop j = x :: r.drop (j + 1)) := hd2
              have hjn : (j : Int) < n := by have := HRN.out; omega
              clear hd2
              cases hx : P.btw x 0 100000
              · go_wp2_with (go_at_call 37; refine (between_any _ _ _ _).mono ?_; rintro e w1 ⟨rfl, rfl⟩; rw [hx])
                go_ret
                exact ⟨ret_int (by rw [HE2.out, any_hit hlt HD.out (any_hit hjl HD2.out (by rw [hx]; rfl))]; rfl), by go_grown⟩
              · go_wp2_with (go_at_call 37; refine (between_any _ _ _ _).mono ?_; rintro e w1 ⟨rfl, rfl⟩; rw [hx])
                go_roundg (r.length - (j + 1))
                case measure => omega
                case rel => exact ⟨j + 1, by omega, rfl, by go_num, any_on HQ.out HD2.out (by rw [hx]; rfl), rfl⟩
            · obtain rfl : j = r.length := by omega
              have hjn : ¬ ((r.length : Nat) : Int) < n := by have := HRN.out; omega
              have HB : Aside (P.badRow r = false) := any_none HQ.out
              clear HQ
              go_wp2
              go_roundg (L.length - (k + 1))
              case measure => omega
              case rel => exact ⟨k + 1, by omega, rfl, by go_num, any_on HP.out HD.out HB.out, rfl⟩
        · obtain rfl : k = L.length := by omega
          have hB := any_none HP.out
          have HE3 : Aside (P.fareE L al th B dn c n = (if P.btw al 0 200 = true ∧ P.btw th 0 100 = true ∧ P.btw dn 0 100 = true then P.bandsE B else 3)) := by
            show _ = _
            rw [HE2.out, hB]
            rfl
          clear HP HE2 hB HA hk hlt
          cases h3 : P.btw al 0 200 <;> cases h4 : P.btw th 0 100 <;> cases h5 : P.btw dn 0 100
          rotate_left 7
          · have HE4 : Aside (P.fareE L al th B dn c n = P.bandsE B) := by show _ = _; rw [HE3.out]; simp [h3, h4, h5]
            clear HE3
            by_cases hb4 : 4 < B.length
            · have HE5 : Aside (P.bandsE B = 2) := by show _ = _; rw [P.bandsE, if_neg (by omega)]
              have hb4' : (4 : Int) < B.length := by omega
              go_wp2_with (go_at_call 37; refine (between_any _ _ _ _).mono ?_; rintro e w1 ⟨rfl, rfl⟩; first | rw [h3] | rw [h4] | rw [h5])
              go_ret
              exact ⟨ret_int (by rw [HE4.out, HE5.out]), by go_grown⟩
            · have HE5 : Aside (P.bandsE B = P.bands (-1) 100 B) := by show _ = _; rw [P.bandsE, if_pos (by omega)]
              have hb4' : ¬ (4 : Int) < B.length := by omega
              go_wp2_with (go_at_call 37; refine (between_any _ _ _ _).mono ?_; rintro e w1 ⟨rfl, rfl⟩; first | rw [h3] | rw [h4] | rw [h5])
              clear h3 h4 h5
              go_loopg [10] B.length (fun g i wr => ∃ (k : Nat) (d p : Int), k ≤ B.length ∧ g = B.length - k ∧ i = .int .i64 k ∧ P.bands d p (B.drop k) = P.bandsE B ∧ (k = 0 → d = -1 ∧ p = 100) ∧ (∀ j, k = j + 1 → B[j]? = some (d, p)) ∧ wr.cell? ⟨w.heap.size, 3, none⟩ = some (.slice bo B.length bc) ∧ Below w.heap.size w wr)
              case atStart => exact ⟨0, -1, 100, Nat.zero_le _, rfl, rfl, HE5.out.symm, fun _ => ⟨rfl, rfl⟩, (fun j h => by omega), (by simp), by go_grown⟩
              case round =>
                obtain ⟨k, d, p, hk, rfl, rfl, hP, hz, hprev, hbx, hB⟩ := hrel
                have HP : Aside (P.bands d p (B.drop k) = P.bandsE B) := hP
                have HZ : Aside ((k = 0 → d = -1 ∧ p = 100) ∧ (∀ j, k = j + 1 → B[j]? = some (d, p))) := ⟨hz, hprev⟩
                have hBs := hB.size
                have hbl := World.block_lt_of_cell? wr _ hbx
                have hbl' : w.heap.size < wr.heap.size := hbl
                clear hP hz hprev HE5 hbl
                by_cases hlt : k < B.length
                · obtain ⟨b, off, x, y, rfl, hbw, hd, hc0, hc1⟩ := PairsAt.get hf.bands hB k hlt
                  rw [hd] at HP
                  have hgk := getA hlt hd
                  have HG : Aside (B[k]? = some (x, y)) := by show _ = _; rw [List.getElem?_eq_getElem hlt, hgk]
                  clear hd hgk
                  have hbb : b < wr.heap.size := by omega
                  cases h1 : P.btw x 0 999
                  · rw [P.bands, if_neg (by simp [h1])] at HP
                    go_wp2_with (go_at_call 37; refine (between_any _ _ _ _).mono ?_; rintro e w1 ⟨rfl, rfl⟩; rw [h1])
                    go_ret
                    exact ⟨ret_int (by rw [HE4.out, ← HP.out]), bvia hB (by go_grown)⟩
                  · cases h2 : P.btw y 0 100
                    · rw [P.bands, if_neg (by simp [h2])] at HP
                      go_wp2_with (go_at_call 37; refine (between_any _ _ _ _).mono ?_; rintro e w1 ⟨rfl, rfl⟩; first | rw [h1] | rw [h2])
                      go_ret
                      exact ⟨ret_int (by rw [HE4.out, ← HP.out]), bvia hB (by go_grown)⟩
                    · by_cases hk0 : k = 0
                      · subst hk0
                        obtain ⟨rfl, rfl⟩ := HZ.out.1 rfl
                        rw [bands_first (B := B) h1 h2] at HP
                        simp only [Nat.zero_mul, Nat.add_zero] at hc0 hc1
                        go_wp2_with (go_at_call 37; refine (between_any _ _ _ _).mono ?_; rintro e w1 ⟨rfl, rfl⟩; first | rw [h1] | rw [h2])
                        go_quiet (fail)
                        go_wp2
                        go_roundg (B.length - 1)
                        case measure => omega
                        case rel => exact ⟨1, x, y, by omega, rfl, by go_num, HP.out, (fun h => by omega), (fun j h => by obtain rfl : j = 0 := (by omega); exact HG.out), cellIn (below_drewN (by go_grown) _) hbx, below_drewN (bvia hB (by go_grown)) _⟩
                      · obtain ⟨j, rfl⟩ : ∃ j, k = j + 1 := ⟨k - 1, by omega⟩
                        have hprev := HZ.out.2 j rfl
                        obtain ⟨b3, o3, x3, y3, e3, _, hd3, hc3, hc4⟩ := PairsAt.get hf.bands hB j (by omega)
                        simp only [Option.some.injEq, Addr.mk.injEq] at e3
                        obtain ⟨rfl, rfl, _⟩ := e3
                        have hg3 := getA (show j < B.length by omega) hd3
                        rw [List.getElem?_eq_getElem (by omega), hg3] at hprev
                        simp only [Option.some.injEq, Prod.mk.injEq] at hprev
                        obtain ⟨rfl, rfl⟩ := hprev
                        rw [P.bands, if_pos ⟨h1, h2⟩] at HP
                        simp only at HP
                        clear hd3 hg3 hk0
                        have hq1 : (j : Int) + 1 < (B.length : Int) := by omega
                        have hq2 : (j : Int) < (B.length : Int) := by omega
                        have hq0 : (0 : Int) ≤ (j : Int) + 1 := by omega
                        have hqp : (0 : Int) < (j : Int) + 1 := by omega
                        by_cases hx : x ≤ x3
                        · have hx' : decide (x ≤ x3) = true := by simpa using hx
                          rw [if_pos (.inl hx)] at HP
                          go_wp2_with (go_at_call 37; refine (between_any _ _ _ _).mono ?_; rintro e w1 ⟨rfl, rfl⟩; first | rw [h1] | rw [h2])
                          go_quiet (fail)
                          go_wp2
                          go_ret
                          exact ⟨ret_int (by rw [HE4.out, ← HP.out]), below_drewN (bvia hB (by go_grown)) _⟩
                        · have hx' : decide (x ≤ x3) = false := by simpa using hx
                          by_cases hy : y3 < y
                          · have hy' : decide (y3 < y) = true := by simpa using hy
                            rw [if_pos (.inr hy)] at HP
                            go_wp2_with (go_at_call 37; refine (between_any _ _ _ _).mono ?_; rintro e w1 ⟨rfl, rfl⟩; first | rw [h1] | rw [h2])
                            go_quiet (fail)
                            go_wp2
                            go_ret
                            exact ⟨ret_int (by rw [HE4.out, ← HP.out]), below_drewN (bvia hB (by go_grown)) _⟩
                          · have hy' : decide (y3 < y) = false := by simpa using hy
                            rw [if_neg (by omega)] at HP
                            go_wp2_with (go_at_call 37; refine (between_any _ _ _ _).mono ?_; rintro e w1 ⟨rfl, rfl⟩; first | rw [h1] | rw [h2])
                            go_quiet (fail)
                            go_wp2
                            go_roundg (B.length - (j + 1 + 1))
                            case measure => omega
                            case rel => exact ⟨j + 1 + 1, x, y, by omega, rfl, by go_num, HP.out, (fun h => by omega), (fun i h => by obtain rfl : i = j + 1 := (by omega); exact HG.out), cellIn (below_drewN (by go_grown) _) hbx, below_drewN (bvia hB (by go_grown)) _⟩
                · obtain rfl : k = B.length := by omega
                  rw [List.drop_of_length_le (Nat.le_refl _), P.bands] at HP
                  go_wp2
                  go_ret
                  exact ⟨ret_int (by rw [HE4.out, ← HP.out]), hB⟩
          all_goals
            go_wp2_with (go_at_call 37; refine (between_any _ _ _ _).mono ?_; rintro e w1 ⟨rfl, rfl⟩; first | rw [h3] | rw [h4] | rw [h5])
            go_ret
            exact ⟨ret_int (by rw [HE3.out]; simp [h3, h4, h5]), by go_grown⟩

end Go.Proofs.Ytagjlckmemmflac
