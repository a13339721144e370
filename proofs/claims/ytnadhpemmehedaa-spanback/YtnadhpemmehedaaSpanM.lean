/- The walk of the law SpanBack. -/
import Derived.Test.YtnadhpemmehedaaSpanL
import Derived.Deep.RegionWith
namespace Go.Proofs.Ytnadhpemmehedaa
open Go.RowKit
set_option linter.unusedSimpArgs false
set_option linter.unusedVariables false

theorem meetsOk_any (a b c d : Int) (w : World) (h : P.meets a b c d = 0) :
    Calls Try.prog 9 #[.agg #[.int .i64 a, .int .i64 b], .agg #[.int .i64 c, .int .i64 d]] w fun e w' => e = .returned (.tuple #[.bool (P.meet a b c d), .int .i64 0]) ∧ Below w.heap.size w w' := by
  have := meets_any a b c d w
  rw [h] at this
  simpa using this

set_option maxHeartbeats 4000000 in
theorem spanBack_walk (ao : Option Addr) (cap : Nat) (l : List (Int × Int)) (n f t : Int) (w : World) (hl : SpAt w ao cap l) :
    Calls Try.prog 4 #[.slice ao l.length cap, .int .i64 n, .agg #[.int .i64 f, .int .i64 t]] w fun e w' => e = .returned (.bool true) ∧ Below w.heap.size w w' := by
  by_cases h0 : P.addE l n f t = 0
  · have H0 : Aside (P.addE l n f t = 0) := h0
    clear h0
    go_enter Try.func4, Try.ntmps4
    go_wp2_with (go_at_call 18; refine (spanBegun_any _).mono ?_; rintro e w1 ⟨rfl, hb1⟩; obtain ⟨hcc, hff⟩ := bcell hb1)
    have hx1 := (BoxAt.new w f t).below hb1
    have hw1 : Below w.heap.size w w1 := bvia (by go_grown) hb1
    refine (add_any _ _ l _ _ _ _ (hl.below hw1)).mono ?_
    rintro e w2 ⟨v2, rfl, hown2, hb2⟩
    rw [H0.out]
    rw [(add_ok H0.out).2.2.2] at hown2
    obtain ⟨ao2, cap2, rfl, a2⟩ := Own.at hown2
    have hw2 := bvia hw1 hb2
    obtain ⟨hx2, hf2, ht2⟩ := hx1.below hb2
    have hx2' := hx1.below hb2
    go_wp2_with fail
    refine (take_any _ _ (P.ins f t l) _ _ _ _ a2).mono ?_
    rintro e w3 ⟨v3, rfl, hown3, hb3⟩
    rw [(ins_takeE H0.out).1]
    rw [(ins_takeE H0.out).2] at hown3
    obtain ⟨ao3, cap3, rfl, a3⟩ := Own.at hown3
    have hw3 := bvia hw2 hb3
    obtain ⟨hx3, hf3, ht3⟩ := hx2'.below hb3
    go_wp2_with fail
    refine (add_any _ _ (P.ins f t l) _ _ _ _ (a2.below hb3)).mono ?_
    rintro e w4 ⟨v4, rfl, hown4, hb4⟩
    rw [ins_addE H0.out]
    have hw4 := bvia hw3 hb4
    go_wp2_with fail
    refine (sameSpans_any _ _ _ _ l l _ (a3.below hb4) (hl.below hw4)).mono ?_
    rintro e w5 ⟨rfl, hb5⟩
    go_wp2
    go_ret
    exact ⟨by simp, bvia hw4 hb5⟩
  · by_cases h6 : P.addE l n f t = 6
    · have H6 : Aside (P.addE l n f t = 6) := h6
      clear h6
      go_enter Try.func4, Try.ntmps4
      go_wp2_with (go_at_call 18; refine (spanBegun_any _).mono ?_; rintro e w1 ⟨rfl, hb1⟩; obtain ⟨hcc, hff⟩ := bcell hb1)
      have hx1 := (BoxAt.new w f t).below hb1
      have hw1 : Below w.heap.size w w1 := bvia (by go_grown) hb1
      refine (add_any _ _ l _ _ _ _ (hl.below hw1)).mono ?_
      rintro e w2 ⟨v2, rfl, hown2, hb2⟩
      rw [H6.out]
      have hw2 := bvia hw1 hb2
      have hx2 := hx1.below hb2
      have hle := hl.le
      obtain ⟨hcal, hck, hex⟩ := add_six H6.out
      obtain ⟨h7, hcl, hs⟩ := calendar_len hcal
      go_wp2_with fail
      go_loopg [13] l.length (fun g i wr => ∃ (k : Nat), k ≤ l.length ∧ g = l.length - k ∧ i = .int .i64 k ∧ (∃ s ∈ l.drop k, P.meet s.1 s.2 f t = true) ∧ Below w2.heap.size w2 wr)
      case atStart => exact ⟨0, Nat.zero_le _, rfl, rfl, hex, Below.refl _ _⟩
      case round =>
        obtain ⟨k, hk, rfl, rfl, hP, hB⟩ := hrel
        have hBs := hB.size
        have HP : Aside (∃ s ∈ l.drop k, P.meet s.1 s.2 f t = true) := hP
        clear hP
        have hlt : k < l.length := by
          obtain ⟨s, hs, _⟩ := HP.out
          have := List.length_pos_of_mem hs
          simp at this
          omega
        obtain ⟨b, off, a, c, rfl, hbw, hd, hc0, hc1⟩ := (hl.below hw2).get hB k hlt
        obtain ⟨hxr, hf, ht⟩ := hx2.below hB
        have hm0 : P.meets a c f t = 0 := by
          have hmem : (a, c) ∈ l := by have := List.mem_cons_self (a := (a, c)) (l := l.drop (k + 1)); rw [← hd] at this; exact List.mem_of_mem_drop this
          have h1 := cal_mem hcl hmem
          have h2 := chk_zero hck
          rw [P.meets, if_pos (chk_ok h1.1 h1.2.1 (by simp at h1 ⊢; omega) (by decide))]
          exact chk_ok h2.1 h2.2.1 (by omega) (by decide)
        have HM : Aside (P.meets a c f t = 0) := hm0
        have HD : Aside (l.drop k = (a, c) :: l.drop (k + 1)) := hd
        clear hd hm0
        have hi1 : (k : Int) < (l.length : Int) := by omega
        have hi2 : (0 : Int) ≤ (k : Int) := by omega
        cases hmt : P.meet a c f t
        · go_wp2_with fail
          go_region_with (go_at_call 9; refine (meetsOk_any _ _ _ _ _ HM.out).mono ?_; rintro e w3 ⟨rfl, hb3⟩; rw [hmt])
          all_goals
            go_wp2
            go_roundg (l.length - (k + 1))
            case measure => omega
            case rel =>
              refine ⟨k + 1, by omega, rfl, by go_num, ?_, bvia hB (by first | exact hb3 | exact bvia (by go_grown) hb3)⟩
              have := HP.out
              rw [HD.out] at this
              obtain ⟨s, hs, hm⟩ := this
              rcases List.mem_cons.1 hs with rfl | hs
              · rw [hmt] at hm; cases hm
              · exact ⟨s, hs, hm⟩
        · go_wp2_with fail
          go_region_with (go_at_call 9; refine (meetsOk_any _ _ _ _ _ HM.out).mono ?_; rintro e w3 ⟨rfl, hb3⟩; rw [hmt])
          all_goals
            go_wp2
            go_ret
            exact ⟨rfl, bvia hw2 (bvia hB (by first | exact hb3 | exact bvia (by go_grown) hb3))⟩
    · have H0 : Aside (P.addE l n f t ≠ 0) := h0
      have H6 : Aside (P.addE l n f t ≠ 6) := h6
      have e0 : (P.addE l n f t == 0) = false := by simpa using h0
      have e6 : (P.addE l n f t != 6) = true := by simpa using h6
      clear h0 h6
      go_enter Try.func4, Try.ntmps4
      go_wp2_with (go_at_call 18; refine (spanBegun_any _).mono ?_; rintro e w1 ⟨rfl, hb1⟩; obtain ⟨hcc, hff⟩ := bcell hb1)
      have hx1 := (BoxAt.new w f t).below hb1
      have hw1 : Below w.heap.size w w1 := bvia (by go_grown) hb1
      refine (add_any _ _ l _ _ _ _ (hl.below hw1)).mono ?_
      rintro e w2 ⟨v2, rfl, hown2, hb2⟩
      rw [P.addL, if_neg H0.out] at hown2
      obtain ⟨ao2, cap2, rfl, a2⟩ := Own.at hown2
      go_wp2
      go_ret
      exact ⟨by simp, bvia hw1 hb2⟩

end Go.Proofs.Ytnadhpemmehedaa
