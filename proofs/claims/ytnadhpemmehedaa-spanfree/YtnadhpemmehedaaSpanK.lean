/- The walk of the law SpanFree. -/
import Derived.Test.YtnadhpemmehedaaSpanJ
namespace Go.Proofs.Ytnadhpemmehedaa
open Go.RowKit
set_option linter.unusedSimpArgs false
set_option linter.unusedVariables false

theorem cnt_on {i : Int} {l : List (Int × Int)} {k c : Nat} {f t : Int} (hP : c + P.cnt i (l.drop k) = P.cnt i l) (hD : l.drop k = (f, t) :: l.drop (k + 1)) (h : f ≤ i ∧ i < t) : c + 1 + P.cnt i (l.drop (k + 1)) = P.cnt i l := by
  rw [hD, cnt_cons, if_pos (by simp [P.has]; omega)] at hP
  omega
theorem cnt_off {i : Int} {l : List (Int × Int)} {k c : Nat} {f t : Int} (hP : c + P.cnt i (l.drop k) = P.cnt i l) (hD : l.drop k = (f, t) :: l.drop (k + 1)) (h : i < f ∨ t ≤ i) : c + P.cnt i (l.drop (k + 1)) = P.cnt i l := by
  rw [hD, cnt_cons, if_neg (by simp [P.has]; omega)] at hP
  omega
theorem cnt_le (i : Int) (l : List (Int × Int)) : P.cnt i l ≤ l.length := List.countP_le_length

set_option maxHeartbeats 4000000 in
theorem spanFree_walk (ao : Option Addr) (cap : Nat) (l : List (Int × Int)) (n : Int) (w : World) (hl : SpAt w ao cap l) :
    Calls Try.prog 5 #[.slice ao l.length cap, .int .i64 n] w fun e w' => e = .returned (.bool true) ∧ Below w.heap.size w w' := by
  cases hz : (P.calendar l n != 0)
  · have HZ : Aside (P.calendar l n = 0) := by show _ = _; simpa using hz
    obtain ⟨h7, _, hs⟩ := calendar_len HZ.out
    have hn : 1 ≤ n ∧ n ≤ 7 := by simpa [P.sails] using hs
    obtain ⟨N, rfl⟩ : ∃ N : Nat, n = N := ⟨n.toNat, by omega⟩
    obtain ⟨hn1, hn7⟩ := hn
    go_enter Try.func5, Try.ntmps5
    go_wp2_with fail
    refine (free_any _ _ l _ _ hl).mono ?_
    rintro e w1 ⟨v1, rfl, hown1, hb1⟩
    have hfl := free_len l N
    have HC : Aside (∀ i : Nat, i < N → P.cnt i l + P.cnt i (P.free l N) = 1) := fun i hi => cnt_free HZ.out (by omega) (by omega)
    have HA : Aside ((P.free l N).Pairwise (fun x y => x.2 < y.1)) := apart_free
    generalize P.free l N = F at hown1 hfl HC HA
    obtain ⟨ao1, cap1, rfl, a1⟩ := Own.at hown1
    go_wp2_with (go_at_call 18; refine (spanBegun_any _).mono ?_; rintro e w2 ⟨rfl, hb2⟩)
    have a2 := a1.below hb2
    have l2 := (hl.below hb1).below hb2
    have hB := bvia hb1 hb2
    have hle := hl.le
    have hle1 := a1.le
    clear hown1 a1 hl
    go_loopg [7] N (fun g i wr => ∃ (k : Nat), k ≤ N ∧ g = N - k ∧ i = .int .i64 k ∧ wr = w2)
    case atStart => exact ⟨0, Nat.zero_le _, rfl, rfl, rfl⟩
    case round =>
      obtain ⟨k, hk, rfl, rfl, rfl⟩ := hrel
      by_cases hlt : k < N
      · have HCk : Aside (P.cnt k l + P.cnt k F = 1) := HC.out k hlt
        go_wp2_with fail
        go_loopg [8, 9] l.length (fun g m j wx => ∃ (i c : Nat), i ≤ l.length ∧ g = l.length - i ∧ j = .int .i64 i ∧ m = .int .i64 c ∧ c ≤ i ∧ c + P.cnt k (l.drop i) = P.cnt k l ∧ wx = wr)
        case atStart => exact ⟨0, 0, Nat.zero_le _, rfl, rfl, rfl, Nat.le_refl _, by simp, rfl⟩
        case round =>
          obtain ⟨i, c, hi, rfl, rfl, rfl, hci, hP, rfl⟩ := hrel
          have HP : Aside (c + P.cnt k (l.drop i) = P.cnt k l) := hP
          clear hP
          by_cases hil : i < l.length
          · obtain ⟨b, off, f, t, rfl, hbw, hd, hc0, hc1⟩ := l2.get (Below.refl _ _) i hil
            have HD : Aside (l.drop i = (f, t) :: l.drop (i + 1)) := hd
            clear hd
            by_cases c1 : f ≤ k
            · by_cases c2 : k < t
              · go_wp2
                go_roundg (l.length - (i + 1))
                case measure => omega
                case rel => exact ⟨i + 1, c + 1, by omega, rfl, by go_num, by go_num, by omega, cnt_on HP.out HD.out ⟨c1, c2⟩, rfl⟩
              · go_wp2
                go_roundg (l.length - (i + 1))
                case measure => omega
                case rel => exact ⟨i + 1, c, by omega, rfl, by go_num, by go_num, by omega, cnt_off HP.out HD.out (.inr (by omega)), rfl⟩
            · have c1' : decide (f ≤ (k : Int)) = false := by simpa using c1
              go_wp2
              go_roundg (l.length - (i + 1))
              case measure => omega
              case rel => exact ⟨i + 1, c, by omega, rfl, by go_num, by go_num, by omega, cnt_off HP.out HD.out (.inl (by omega)), rfl⟩
          · obtain rfl : i = l.length := by omega
            have hcl : c = P.cnt k l := by have := HP.out; rw [List.drop_of_length_le (Nat.le_refl _), cnt_nil] at this; omega
            have HCl : Aside (c + P.cnt k F = 1) := by show _ = _; rw [hcl]; exact HCk.out
            clear hcl HP HCk
            go_wp2_with fail
            go_loopg [8, 10] F.length (fun g m j wx => ∃ (i c' : Nat), i ≤ F.length ∧ g = F.length - i ∧ j = .int .i64 i ∧ m = .int .i64 c' ∧ c' ≤ c + i ∧ c' + P.cnt k (F.drop i) = 1 ∧ wx = wr)
            case atStart => exact ⟨0, c, Nat.zero_le _, rfl, rfl, rfl, Nat.le_refl _, by simpa using HCl.out, rfl⟩
            case round =>
              obtain ⟨i, c', hi, rfl, rfl, rfl, hci', hP, rfl⟩ := hrel
              have HP : Aside (c' + P.cnt k (F.drop i) = 1) := hP
              clear hP
              by_cases hil : i < F.length
              · obtain ⟨b, off, f, t, rfl, hbw, hd, hc0, hc1⟩ := a2.get (Below.refl _ _) i hil
                have HD : Aside (F.drop i = (f, t) :: F.drop (i + 1)) := hd
                clear hd
                by_cases c1 : f ≤ k
                · by_cases c2 : k < t
                  · go_wp2
                    go_roundg (F.length - (i + 1))
                    case measure => omega
                    case rel => exact ⟨i + 1, c' + 1, by omega, rfl, by go_num, by go_num, by omega, by have := HP.out; rw [HD.out, cnt_cons, if_pos (by simp [P.has]; omega)] at this; omega, rfl⟩
                  · go_wp2
                    go_roundg (F.length - (i + 1))
                    case measure => omega
                    case rel => exact ⟨i + 1, c', by omega, rfl, by go_num, by go_num, by omega, by have := HP.out; rw [HD.out, cnt_cons, if_neg (by simp [P.has]; omega)] at this; omega, rfl⟩
                · have c1' : decide (f ≤ (k : Int)) = false := by simpa using c1
                  go_wp2
                  go_roundg (F.length - (i + 1))
                  case measure => omega
                  case rel => exact ⟨i + 1, c', by omega, rfl, by go_num, by go_num, by omega, by have := HP.out; rw [HD.out, cnt_cons, if_neg (by simp [P.has]; omega)] at this; omega, rfl⟩
              · obtain rfl : i = F.length := by omega
                have h1 : c' = 1 := by have := HP.out; rw [List.drop_of_length_le (Nat.le_refl _), cnt_nil] at this; omega
                subst h1
                go_wp2
                go_roundg (N - (k + 1))
                case measure => omega
                case rel => exact ⟨k + 1, by omega, rfl, by go_num, rfl⟩
      · obtain rfl : k = N := by omega
        go_wp2_with fail
        go_loopg [11] F.length (fun g j wx => ∃ (i : Nat), 1 ≤ i ∧ i ≤ F.length + 1 ∧ g = F.length + 1 - i ∧ j = .int .i64 i ∧ Below w.heap.size w wx ∧ Below wr.heap.size wr wx)
        case atStart => exact ⟨1, Nat.le_refl _, by omega, by omega, rfl, hB, Below.refl _ _⟩
        case round =>
          obtain ⟨i, hi1, hi, rfl, rfl, hBw, hBx⟩ := hrel
          obtain ⟨j, rfl⟩ : ∃ j, i = j + 1 := ⟨i - 1, by omega⟩
          by_cases hil : j + 1 < F.length
          · obtain ⟨b, off, f, t, rfl, hbw, hd, hc0, hc1⟩ := a2.get hBx (j + 1) hil
            obtain ⟨b', off', f', t', e1, _, hd', hc0', hc1'⟩ := a2.get hBx j (by omega)
            simp only [Option.some.injEq, Addr.mk.injEq] at e1
            obtain ⟨rfl, rfl, _⟩ := e1
            have hap : t' < f := by
              have := List.pairwise_iff_getElem.1 HA.out j (j + 1) (by omega) hil (by omega)
              rw [List.drop_eq_getElem_cons hil] at hd
              rw [List.drop_eq_getElem_cons (by omega : j < F.length)] at hd'
              simp only [List.cons.injEq] at hd hd'
              rw [hd.1, hd'.1] at this
              exact this
            clear hd hd'
            have hi1' : (j : Int) + 1 < (F.length : Int) := by omega
            have hi0 : (0 : Int) ≤ (j : Int) + 1 := by omega
            have hi2 : (j : Int) < (F.length : Int) := by omega
            have hi3 : (0 : Int) ≤ (j : Int) := by omega
            have hap' : decide (f ≤ t') = false := by simp; omega
            go_wp2
            go_quiet (fail)
            go_wp2
            go_roundg (F.length + 1 - (j + 1 + 1))
            case measure => omega
            case rel => exact ⟨j + 1 + 1, by omega, by omega, rfl, by go_num, below_drewN hBw _, below_drewN hBx _⟩
          · go_wp2
            go_ret
            exact ⟨rfl, hBw⟩
  · have HZ : Aside (P.calendar l n ≠ 0) := by show _ ≠ _; simpa using hz
    go_enter Try.func5, Try.ntmps5
    go_wp2_with fail
    refine (free_any _ _ l _ _ hl).mono ?_
    rintro e w1 ⟨v1, rfl, hown1, hb1⟩
    rw [P.free, if_neg HZ.out] at hown1
    obtain ⟨ao1, cap1, rfl, a1⟩ := Own.at hown1
    go_wp2_with (go_at_call 18; refine (spanBegun_any _).mono ?_; rintro e w2 ⟨rfl, hb2⟩)
    go_ret
    exact ⟨by simp, bvia hb1 hb2⟩

end Go.Proofs.Ytnadhpemmehedaa
