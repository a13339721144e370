/- The walk of the reference's CheckGraph. -/
import Derived.Test.YtcifdkggigfnlabMatO
namespace Go.Proofs.Ytcifdkggigfnlab
open Go.RowKit Go.Maps Go.WideMaps
set_option linter.unusedSimpArgs false
set_option linter.unusedVariables false

set_option maxHeartbeats 4000000 in
theorem refGraph_any (ao : Option Addr) (cap : Nat) (l : List Edge) (n m : Int) (w : World) (hl : EdgesAt w ao cap l) :
    Calls Try.prog 25 #[.int .i64 n, .int .i64 m, .slice ao l.length cap] w fun e w' => e = .returned (.int .i64 (P.graphE n m l)) ∧ Below w.heap.size w w' := by
  have hle := hl.le
  have hmx := hl.max
  unfold maxLen at hmx
  cases h1 : P.btw n 0 16
  · have HE : Aside (P.graphE n m l = 3) := by show _ = _; rw [P.graphE, h1]; rfl
    go_enter Try.func25, Try.ntmps25
    go_wp2_with (go_at_call 40; refine (between_any _ _ _ _).mono ?_; rintro e w' ⟨rfl, rfl⟩; rw [h1])
    go_ret
    exact ⟨ret_int HE.out.symm, Below.refl _ _⟩
  · cases h2 : P.btw m 0 16
    · have HE : Aside (P.graphE n m l = 3) := by show _ = _; rw [P.graphE, h1, h2]; rfl
      go_enter Try.func25, Try.ntmps25
      go_wp2_with (go_at_call 40; refine (between_any _ _ _ _).mono ?_; rintro e w' ⟨rfl, rfl⟩; first | rw [h1] | rw [h2])
      go_ret
      exact ⟨ret_int HE.out.symm, Below.refl _ _⟩
    · have HE : Aside (P.graphE n m l = P.gr n m [] l) := by show _ = _; rw [P.graphE, h1, h2]; rfl
      go_enter Try.func25, Try.ntmps25
      go_wp2_with (go_at_call 40; refine (between_any _ _ _ _).mono ?_; rintro e w' ⟨rfl, rfl⟩; first | rw [h1] | rw [h2])
      go_loopg [7] l.length (fun g i wr => ∃ (k : Nat), k ≤ l.length ∧ g = l.length - k ∧ i = .int .i64 k ∧ P.gr n m (l.take k) (l.drop k) = P.gr n m [] l ∧ Below w.heap.size w wr)
      case atStart => exact ⟨0, Nat.zero_le _, rfl, rfl, rfl, Below.refl _ _⟩
      case round =>
        obtain ⟨i, hi, rfl, rfl, hP, hB⟩ := hrel
        have HP : Aside (P.gr n m (l.take i) (l.drop i) = P.gr n m [] l) := hP
        clear hP
        by_cases hlt : i < l.length
        · obtain ⟨b, off, x, y, rfl, hbw, hd, hc0, hc1⟩ := hl.get (Below.refl _ _) i hlt
          rw [hd, P.gr] at HP
          have HG : Aside (l[i] = (x, y)) := getE hlt hd
          clear hd
          have hx0 := cellIn hB hc0
          have hx1 := cellIn hB hc1
          cases hin : P.inE n m (x, y)
          · have HX : Aside (P.graphE n m l = 3) := by have := HP.out; rw [hin] at this; show _ = _; rw [HE.out, ← this]; rfl
            have hor : x < 0 ∨ n ≤ x ∨ y < 0 ∨ m ≤ y := by
              rcases Int.lt_or_le x 0 with h | h
              · exact .inl h
              · rcases Int.lt_or_le x n with h3 | h3
                · rcases Int.lt_or_le y 0 with h4 | h4
                  · exact .inr (.inr (.inl h4))
                  · rcases Int.lt_or_le y m with h5 | h5
                    · rw [inE_iff.2 ⟨h, h3, h4, h5⟩] at hin; cases hin
                    · exact .inr (.inr (.inr h5))
                · exact .inr (.inl h3)
            clear HP
            by_cases q1 : x < 0
            · go_wp2
              go_ret
              exact ⟨ret_int HX.out.symm, hB⟩
            · by_cases q2 : n ≤ x
              · go_wp2
                go_ret
                exact ⟨ret_int HX.out.symm, hB⟩
              · by_cases q3 : y < 0
                · go_wp2
                  go_ret
                  exact ⟨ret_int HX.out.symm, hB⟩
                · have q4 : m ≤ y := by omega
                  go_wp2
                  go_ret
                  exact ⟨ret_int HX.out.symm, hB⟩
          · obtain ⟨q1, q2, q3, q4⟩ := inE_iff.1 hin
            simp only at q1 q2 q3 q4
            rw [if_pos hin] at HP
            have p1 : ¬ x < 0 := by omega
            have p2 : ¬ n ≤ x := by omega
            have p3 : ¬ y < 0 := by omega
            have p4 : ¬ m ≤ y := by omega
            clear hin
            go_wp2
            go_loopg [8] i (fun g kk wx => ∃ (k : Nat), k ≤ i ∧ g = i - k ∧ kk = .int .i64 k ∧ P.hasEdge (l.take k) (x, y) = false ∧ Below w.heap.size w wx)
            case atStart => exact ⟨0, Nat.zero_le _, rfl, rfl, by simp [P.hasEdge], hB⟩
            case round =>
              clear hB hx0 hx1
              obtain ⟨k, hk, rfl, rfl, hno, hB⟩ := hrel
              have HNO : Aside (P.hasEdge (l.take k) (x, y) = false) := hno
              clear hno
              have hx0 := cellIn hB hc0
              have hx1 := cellIn hB hc1
              by_cases hki : k < i
              · obtain ⟨b3, o3, f, t, e3, _, hd3, hc3, hc4⟩ := hl.get hB k (by omega)
                simp only [Option.some.injEq, Addr.mk.injEq] at e3
                obtain ⟨rfl, rfl, _⟩ := e3
                have HT : Aside (P.hasEdge (l.take (k + 1)) (x, y) = (P.hasEdge (l.take k) (x, y) || decide ((f, t) = (x, y)))) := take_has (by omega) (getE (by omega) hd3)
                rw [HNO.out, Bool.false_or] at HT
                clear HNO
                have HF : Aside (l[k]'(by omega) = (f, t)) := getE (by omega) hd3
                clear hd3
                have hi1 : (k : Int) < (l.length : Int) := by omega
                have hi3 : (0 : Int) ≤ (k : Int) := by omega
                have hi2 : (i : Int) < (l.length : Int) := by omega
                have hi4 : (0 : Int) ≤ (i : Int) := by omega
                by_cases e1 : f = x
                · subst e1
                  by_cases e2 : t = y
                  · subst e2
                    have HX : Aside (P.graphE n m l = 6) := by
                      have hmem : P.hasEdge (l.take i) (f, t) = true := by
                        rw [hasEdge_iff]
                        have : (l.take i)[k]'(by simp; omega) = (f, t) := by rw [List.getElem_take]; exact HF.out
                        rw [← this]
                        exact List.getElem_mem _
                      have := HP.out
                      rw [if_pos hmem] at this
                      show _ = _
                      rw [HE.out, ← this]
                    go_wp2
                    go_quiet (fail)
                    go_wp2
                    go_ret
                    exact ⟨ret_int HX.out.symm, below_drewN hB _⟩
                  · have e2' : (t == y) = false := by simpa using e2
                    go_wp2
                    go_quiet (fail)
                    go_wp2
                    go_roundg (i - (k + 1))
                    case measure => omega
                    case rel => exact ⟨k + 1, by omega, rfl, by go_num, by rw [HT.out]; simp [e2], below_drewN hB _⟩
                · have e1' : (f == x) = false := by simpa using e1
                  go_wp2
                  go_quiet (fail)
                  go_wp2
                  go_roundg (i - (k + 1))
                  case measure => omega
                  case rel => exact ⟨k + 1, by omega, rfl, by go_num, by rw [HT.out]; simp [e1], below_drewN hB _⟩
              · obtain rfl : k = i := by omega
                have HX : Aside (P.gr n m (l.take (k + 1)) (l.drop (k + 1)) = P.gr n m [] l) := by
                  have := HP.out
                  rw [if_neg (by rw [HNO.out]; simp)] at this
                  show _ = _
                  rw [List.take_succ_eq_append_getElem hlt, HG.out]
                  exact this
                go_wp2
                go_roundg (l.length - (k + 1))
                case measure => omega
                case rel => exact ⟨k + 1, by omega, rfl, by go_num, HX.out, hB⟩
        · obtain rfl : i = l.length := by omega
          have HX : Aside (P.graphE n m l = 0) := by
            have := HP.out
            rw [List.drop_of_length_le (Nat.le_refl _), P.gr] at this
            show _ = _
            rw [HE.out, ← this]
          clear HP
          go_wp2
          go_ret
          exact ⟨ret_int HX.out.symm, hB⟩

end Go.Proofs.Ytcifdkggigfnlab
