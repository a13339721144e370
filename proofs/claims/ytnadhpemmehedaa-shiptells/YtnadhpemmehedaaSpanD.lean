/- Walks of CheckCalendar, SameSpans, DoMeet. -/
import Derived.Test.YtnadhpemmehedaaSpanC
import Derived.WalkSmall
namespace Go.Proofs.Ytnadhpemmehedaa
open Go.RowKit
set_option linter.unusedSimpArgs false
set_option linter.unusedVariables false

theorem chk_zero {f t n : Int} (h : P.chk f t n = 0) : 0 ≤ f ∧ f < t ∧ t ≤ n ∧ n ≤ 7 ∧ 1 ≤ n ∧ P.sails n = true := by
  unfold P.chk at h
  split at h
  · omega
  · split at h
    · omega
    · rename_i h1 h2
      have hs : P.sails n = true := by cases hh : P.sails n <;> simp_all
      have hs2 := hs
      simp [P.sails] at hs2
      exact ⟨by omega, by omega, by omega, hs2.2, hs2.1, hs⟩

set_option maxHeartbeats 1000000 in
theorem refCalendar_any (ao : Option Addr) (cap : Nat) (l : List (Int × Int)) (n : Int) (w : World) (hl : SpAt w ao cap l) :
    Calls Try.prog 14 #[.slice ao l.length cap, .int .i64 n] w fun e w' => e = .returned (.int .i64 (P.calendar l n)) ∧ Below w.heap.size w w' := by
  have hle := hl.le
  have hmx := hl.max
  unfold maxLen at hmx
  cases hs : P.sails n
  · go_enter Try.func14, Try.ntmps14
    go_wp2_with (go_at_call 39; refine (between17_any _ _).mono ?_; rintro e w' ⟨rfl, rfl⟩; rw [hs])
    go_ret
    exact ⟨by simp [P.calendar, hs], Below.refl _ _⟩
  · go_enter Try.func14, Try.ntmps14
    go_wp2_with (go_at_call 39; refine (between17_any _ _).mono ?_; rintro e w' ⟨rfl, rfl⟩; rw [hs])
    go_loopg [5] l.length (fun g i wr => ∃ (k : Nat) (e : Int), k ≤ l.length ∧ g = l.length - k ∧ i = .int .i64 k ∧ P.cal n e (l.drop k) = P.cal n 0 l ∧ (k = 0 → e = 0) ∧ (∀ j, k = j + 1 → ∃ f, l.drop j = (f, e) :: l.drop k) ∧ Below w.heap.size w wr)
    case atStart => exact ⟨0, 0, Nat.zero_le _, rfl, rfl, rfl, fun _ => rfl, fun j h => by omega, Below.refl _ _⟩
    case round =>
      obtain ⟨k, e0, hk, rfl, rfl, hP, h0, hj, hB⟩ := hrel
      have hBs := hB.size
      have HP : Aside (P.cal n e0 (l.drop k) = P.cal n 0 l) := hP
      have H0 : Aside (k = 0 → e0 = 0) := h0
      have HJ : Aside (∀ j, k = j + 1 → ∃ f, l.drop j = (f, e0) :: l.drop k) := hj
      clear hP h0 hj
      by_cases hlt : k < l.length
      · obtain ⟨b, off, f, t, rfl, hbw, hd, hc0, hc1⟩ := hl.get hB k hlt
        have HD : Aside (l.drop k = (f, t) :: l.drop (k + 1)) := hd
        clear hd
        cases hz : (P.chk f t n != 0)
        · by_cases hk0 : k = 0
          · subst hk0
            simp only [Nat.zero_mul, Nat.add_zero] at hc0 hc1
            go_wp2_with (go_at_call 13; refine (checkSpan_any _ _ _ _).mono ?_; rintro e w1 ⟨rfl, hb1⟩; obtain ⟨hcc, hff⟩ := bcell hb1)
            go_quiet (fail)
            go_wp2
            go_roundg (l.length - 1)
            case measure => omega
            case rel => exact ⟨1, t, by omega, rfl, by go_num, cal_on HP.out HD.out hz (by have := chk_zero (by simpa using hz); have := H0.out (by trivial); omega), fun h => by omega, fun j hj => ⟨f, by obtain rfl : j = 0 := (by omega); exact HD.out⟩, below_drewN (bvia hB hb1) _⟩
          · obtain ⟨j, rfl⟩ : ∃ j, k = j + 1 := ⟨k - 1, by omega⟩
            obtain ⟨b', off', f', t', e1, _, hd', hc0', hc1'⟩ := hl.get hB j (by omega)
            simp only [Option.some.injEq, Addr.mk.injEq] at e1
            obtain ⟨rfl, rfl, _⟩ := e1
            obtain ⟨f'', hd''⟩ := HJ.out j rfl
            rw [hd'] at hd''
            simp only [List.cons.injEq, Prod.mk.injEq] at hd''
            obtain ⟨⟨_, rfl⟩, _⟩ := hd''
            clear hd'
            have hi1 : (j : Int) + 1 < (l.length : Int) := by omega
            have hi0 : (0 : Int) ≤ (j : Int) + 1 := by omega
            have hi2 : (j : Int) < (l.length : Int) := by omega
            have hpos : (0 : Int) < (j : Int) + 1 := by omega
            go_wp2_with (go_at_call 13; refine (checkSpan_any _ _ _ _).mono ?_; rintro e w1 ⟨rfl, hb1⟩; obtain ⟨hcc, hff⟩ := bcell hb1)
            have hx0 : w1.cell? ⟨b, off + (j + 1) * 2, none⟩ = some (.int .i64 f) := by rw [hcc _ _ (by omega)]; exact hc0
            have hx1 : w1.cell? ⟨b, off + j * 2 + 1, none⟩ = some (.int .i64 t') := by rw [hcc _ _ (by omega)]; exact hc1'
            go_quiet (fail)
            go_wp2
            · go_ret
              exact ⟨ret_int (cal_low hs HP.out HD.out hz ‹_›).symm, below_drewN (bvia hB hb1) _⟩
            · go_roundg (l.length - (j + 1 + 1))
              case measure => omega
              case rel => exact ⟨j + 1 + 1, t, by omega, rfl, by go_num, cal_on HP.out HD.out hz ‹_›, fun h => by omega, fun i hi => ⟨f, by obtain rfl : i = j + 1 := (by omega); exact HD.out⟩, below_drewN (bvia hB hb1) _⟩
        · go_wp2_with (go_at_call 13; refine (checkSpan_any _ _ _ _).mono ?_; rintro e w1 ⟨rfl, hb1⟩; obtain ⟨hcc, hff⟩ := bcell hb1)
          go_ret
          exact ⟨ret_int (cal_bad hs HP.out HD.out hz).symm, bvia (by go_grown) hb1⟩
      · have : k = l.length := by omega
        subst this
        go_wp2
        go_ret
        have hP := HP.out
        refine ⟨?_, hB⟩
        rw [P.calendar, if_pos hs, ← hP]
        simp [P.cal]

theorem drop_eq {a b : List (Int × Int)} {s t : Int × Int} {k : Nat} (ha : a.drop k = s :: a.drop (k + 1)) (hb : b.drop k = t :: b.drop (k + 1)) : a.drop k = b.drop k ↔ s = t ∧ a.drop (k + 1) = b.drop (k + 1) := by
  rw [ha, hb, List.cons.injEq]

set_option maxHeartbeats 1000000 in
theorem sameSpans_any (ao bo : Option Addr) (ca cb : Nat) (a b : List (Int × Int)) (w : World) (ha : SpAt w ao ca a) (hb : SpAt w bo cb b) :
    Calls Try.prog 22 #[.slice ao a.length ca, .slice bo b.length cb] w fun e w' => e = .returned (.bool (decide (a = b))) ∧ Below w.heap.size w w' := by
  have hle := ha.le
  have hmx := ha.max
  have hle' := hb.le
  have hmx' := hb.max
  unfold maxLen at hmx hmx'
  by_cases hlen : a.length = b.length
  · have HL : Aside (a.length = b.length) := hlen
    have hne : ((a.length : Int) != (b.length : Int)) = false := by simp [hlen]
    go_enter Try.func22, Try.ntmps22
    clear hlen
    go_wp2
    go_loopg [5] a.length (fun g i wr => ∃ (k : Nat), k ≤ a.length ∧ g = a.length - k ∧ i = .int .i64 k ∧ (a.drop k = b.drop k ↔ a = b) ∧ Below w.heap.size w wr)
    case atStart => exact ⟨0, Nat.zero_le _, rfl, rfl, Iff.rfl, Below.refl _ _⟩
    case round =>
      obtain ⟨k, hk, rfl, rfl, hP, hB⟩ := hrel
      have hBs := hB.size
      have HP : Aside (a.drop k = b.drop k ↔ a = b) := hP
      clear hP
      by_cases hlt : k < a.length
      · have hlt' : k < b.length := by have := HL.out; omega
        obtain ⟨b1, o1, f, t, rfl, hbw, hd, hc0, hc1⟩ := ha.get hB k hlt
        obtain ⟨b2, o2, f', t', rfl, hbw', hd', hc0', hc1'⟩ := hb.get hB k hlt'
        have HD := (drop_eq hd hd')
        have HE : Aside (a.drop k = b.drop k ↔ (f, t) = (f', t') ∧ a.drop (k + 1) = b.drop (k + 1)) := HD
        clear hd hd' HD
        have hi1 : (k : Int) < (a.length : Int) := by omega
        have hi2 : (k : Int) < (b.length : Int) := by omega
        have hi3 : (0 : Int) ≤ (k : Int) := by omega
        by_cases e1 : f = f'
        · subst e1
          by_cases e2 : t = t'
          · subst e2
            have HQ : Aside (a.drop (k + 1) = b.drop (k + 1) ↔ a = b) := by show _ ↔ _; rw [← HP.out, HE.out]; simp
            clear HE HP
            go_wp2
            go_quiet (fail)
            go_wp2
            go_roundg (a.length - (k + 1))
            case measure => omega
            case rel => exact ⟨k + 1, by omega, rfl, by go_num, HQ.out, below_drewN hB _⟩
          · have e2' : (t == t') = false := by simpa using e2
            have HN : Aside (decide (a = b) = false) := by
              rw [decide_eq_false_iff_not]; intro h; have := (HE.out.1 (HP.out.2 h)).1; simp at this; exact e2 this
            clear HE HP
            go_wp2
            go_quiet (fail)
            go_wp2
            go_ret
            exact ⟨ret_bool HN.out.symm, below_drewN hB _⟩
        · have e1' : (f == f') = false := by simpa using e1
          have HN : Aside (decide (a = b) = false) := by
            rw [decide_eq_false_iff_not]; intro h; have := (HE.out.1 (HP.out.2 h)).1; simp at this; exact e1 this.1
          clear HE HP
          go_wp2
          go_quiet (fail)
          go_wp2
          go_ret
          exact ⟨ret_bool HN.out.symm, below_drewN hB _⟩
      · have : k = a.length := by omega
        subst this
        go_wp2
        go_ret
        have hP := HP.out
        refine ⟨ret_bool ?_, hB⟩
        rw [List.drop_of_length_le (Nat.le_refl _), List.drop_of_length_le (by rw [HL.out]; exact Nat.le_refl _)] at hP
        simp [hP.1 rfl]
  · have hne : ((a.length : Int) != (b.length : Int)) = true := by rw [bne_iff_ne]; omega
    go_enter Try.func22, Try.ntmps22
    go_wp2
    go_ret
    exact ⟨ret_bool (by rw [eq_comm, decide_eq_false_iff_not]; intro h; exact hlen (by rw [h])), Below.refl _ _⟩

theorem meet_yes {a b c d : Int} {k : Nat} (hx : P.btw k a (b - 1) = true) (hy : P.btw k c (d - 1) = true) : true = P.meet a b c d := by
  simp [P.btw, P.meet] at *
  omega
theorem meet_no {a b c d : Int} (h1 : 0 ≤ a) (h2 : a < b) (h3 : b ≤ 7) (h4 : 0 ≤ c) (h5 : c < d) (h6 : d ≤ 7) (h : ∀ j : Nat, j < 7 → ¬ (a ≤ j ∧ (j : Int) < b ∧ c ≤ j ∧ (j : Int) < d)) : P.meet a b c d = false := by
  have g1 := h a.toNat
  have g2 := h c.toNat
  cases hm : P.meet a b c d
  · rfl
  · simp [P.meet] at hm
    omega
theorem legs_on {a b c d : Int} {k : Nat} (h : ∀ j : Nat, j < k → ¬ (a ≤ j ∧ (j : Int) < b ∧ c ≤ j ∧ (j : Int) < d)) (hk : P.btw k a (b - 1) = false ∨ P.btw k c (d - 1) = false) : ∀ j : Nat, j < k + 1 → ¬ (a ≤ j ∧ (j : Int) < b ∧ c ≤ j ∧ (j : Int) < d) := by
  intro j hj
  by_cases e : j < k
  · exact h j e
  · obtain rfl : j = k := by omega
    simp [P.btw] at hk
    omega

set_option maxHeartbeats 1000000 in
theorem doMeet_any (a b c d : Int) (w : World) (h1 : 0 ≤ a) (h2 : a < b) (h3 : b ≤ 7) (h4 : 0 ≤ c) (h5 : c < d) (h6 : d ≤ 7) :
    Calls Try.prog 20 #[.agg #[.int .i64 a, .int .i64 b], .agg #[.int .i64 c, .int .i64 d]] w fun e w' => e = .returned (.bool (P.meet a b c d)) ∧ Below w.heap.size w w' := by
  go_enter Try.func20, Try.ntmps20
  go_wp2
  go_loopg [5] 7 (fun g i wr => ∃ (k : Nat), k ≤ 7 ∧ g = 7 - k ∧ i = .int .i64 k ∧ (∀ j : Nat, j < k → ¬ (a ≤ j ∧ (j : Int) < b ∧ c ≤ j ∧ (j : Int) < d)) ∧ wr = (w.alloc (.cells #[.int .i64 a, .int .i64 b] 24)).alloc (.cells #[.int .i64 c, .int .i64 d] 24))
  case atStart => exact ⟨0, Nat.zero_le _, rfl, rfl, fun j h => by omega, rfl⟩
  case round =>
    obtain ⟨k, hk, rfl, rfl, hP, rfl⟩ := hrel
    have HP : Aside (∀ j : Nat, j < k → ¬ (a ≤ j ∧ (j : Int) < b ∧ c ≤ j ∧ (j : Int) < d)) := hP
    clear hP
    by_cases hlt : k < 7
    · cases hx : P.btw k a (b - 1) <;> cases hy : P.btw k c (d - 1)
      all_goals
        go_wp2_with (go_at_call 39; refine (between_any _ _ _ _).mono ?_; rintro e w' ⟨rfl, rfl⟩; first | rw [hx] | rw [hy])
        first
        | (go_ret
           exact ⟨ret_bool (meet_yes hx hy), by go_grown⟩)
        | (go_roundg (7 - (k + 1))
           case measure => omega
           case rel => exact ⟨k + 1, by omega, rfl, by go_num, legs_on HP.out (by first | exact .inl hx | exact .inr hy), rfl⟩)
    · obtain rfl : k = 7 := by omega
      go_wp2
      go_ret
      exact ⟨ret_bool (meet_no h1 h2 h3 h4 h5 h6 HP.out).symm, by go_grown⟩

end Go.Proofs.Ytnadhpemmehedaa
