/- Walks of Meets, checkBoth, first and the function literals that it is handed. -/
import Derived.Test.YtnadhpemmehedaaSpanE
namespace Go.Proofs.Ytnadhpemmehedaa
open Go.RowKit
set_option linter.unusedSimpArgs false
set_option linter.unusedVariables false

def P.both (l : List (Int × Int)) (n f t : Int) : Int := if P.calendar l n = 0 then P.chk f t n else P.calendar l n

set_option maxHeartbeats 1000000 in
theorem checkBoth_any (ao : Option Addr) (cap : Nat) (l : List (Int × Int)) (n f t : Int) (w : World) (hl : SpAt w ao cap l) :
    Calls Try.prog 34 #[.slice ao l.length cap, .int .i64 n, .agg #[.int .i64 f, .int .i64 t]] w fun e w' => e = .returned (.int .i64 (P.both l n f t)) ∧ Below w.heap.size w w' := by
  cases hz : (P.calendar l n != 0)
  · have HC : Aside (P.calendar l n = 0) := by show _ = _; simpa using hz
    go_enter Try.func34, Try.ntmps34
    go_wp2_with (first
      | (go_at_call 32; refine (checkCalendar_any _ _ _ _ _ (hl.below (by go_grown))).mono ?_; rintro e w1 ⟨rfl, hb1⟩; obtain ⟨hcc, hff⟩ := bcell hb1)
      | (go_at_call 19; refine (check_any _ _ _ _).mono ?_; rintro e w2 ⟨rfl, hb2⟩))
    go_ret
    exact ⟨ret_int (by rw [P.both, if_pos HC.out]), bvia (bvia (by go_grown) hb1) hb2⟩
  · go_enter Try.func34, Try.ntmps34
    go_wp2_with (go_at_call 32; refine (checkCalendar_any _ _ _ _ _ (hl.below (by go_grown))).mono ?_; rintro e w1 ⟨rfl, hb1⟩; obtain ⟨hcc, hff⟩ := bcell hb1)
    go_ret
    exact ⟨ret_int (by rw [P.both, if_neg (by simpa using hz)]), bvia (by go_grown) hb1⟩

def P.meets (a b c d : Int) : Int := if P.chk a b 7 = 0 then P.chk c d 7 else P.chk a b 7

set_option maxHeartbeats 1000000 in
theorem meets_any (a b c d : Int) (w : World) :
    Calls Try.prog 9 #[.agg #[.int .i64 a, .int .i64 b], .agg #[.int .i64 c, .int .i64 d]] w fun e w' => e = .returned (.tuple #[.bool (decide (P.meets a b c d = 0) && P.meet a b c d), .int .i64 (P.meets a b c d)]) ∧ Below w.heap.size w w' := by
  cases hz : (P.chk a b 7 != 0)
  · cases hz2 : (P.chk c d 7 != 0)
    · have H1 : Aside (P.chk a b 7 = 0) := by show _ = _; simpa using hz
      have H2 : Aside (P.chk c d 7 = 0) := by show _ = _; simpa using hz2
      go_enter Try.func9, Try.ntmps9
      go_wp2_with fail
      refine (check_any _ _ _ _).mono ?_; rintro e w1 ⟨rfl, hb1⟩; obtain ⟨hcc, hff⟩ := bcell hb1
      have hs1 : w.heap.size + 1 < w1.heap.size := by have := hb1.size; simp at this; omega
      have hs0 : w.heap.size < w1.heap.size := by omega
      go_wp2_with fail
      refine (check_any _ _ _ _).mono ?_; rintro e w2 ⟨rfl, hb2⟩; obtain ⟨hcc2, hff2⟩ := bcell hb2
      go_wp2_with (go_at_call 31; refine (meet_any _ _ _ _ _).mono ?_; rintro e w3 ⟨rfl, hb3⟩)
      go_ret2
      refine ⟨?_, bvia (bvia (bvia (by go_grown) hb1) hb2) hb3⟩
      have e0 : P.meets a b c d = 0 := by rw [P.meets, if_pos H1.out]; exact H2.out
      rw [e0]
      simp
    · have H1 : Aside (P.chk a b 7 = 0) := by show _ = _; simpa using hz
      have H2 : Aside (P.chk c d 7 ≠ 0) := by show _ ≠ _; simpa using hz2
      go_enter Try.func9, Try.ntmps9
      go_wp2_with fail
      refine (check_any _ _ _ _).mono ?_; rintro e w1 ⟨rfl, hb1⟩; obtain ⟨hcc, hff⟩ := bcell hb1
      have hs1 : w.heap.size + 1 < w1.heap.size := by have := hb1.size; simp at this; omega
      have hs0 : w.heap.size < w1.heap.size := by omega
      go_wp2_with fail
      refine (check_any _ _ _ _).mono ?_; rintro e w2 ⟨rfl, hb2⟩
      go_wp2
      go_ret2
      refine ⟨?_, bvia (bvia (by go_grown) hb1) hb2⟩
      have e0 : P.meets a b c d = P.chk c d 7 := by rw [P.meets, if_pos H1.out]
      rw [e0, decide_eq_false H2.out]
      rfl
  · have H1 : Aside (P.chk a b 7 ≠ 0) := by show _ ≠ _; simpa using hz
    go_enter Try.func9, Try.ntmps9
    go_wp2_with fail
    refine (check_any _ _ _ _).mono ?_; rintro e w1 ⟨rfl, hb1⟩
    go_wp2
    go_ret2
    refine ⟨?_, bvia (by go_grown) hb1⟩
    have e0 : P.meets a b c d = P.chk a b 7 := by rw [P.meets, if_neg H1.out]
    rw [e0, decide_eq_false H1.out]
    rfl

theorem find_hit {l : List (Int × Int)} {p : Int → Int → Bool} {k : Nat} {f t : Int} (hP : ∀ j (h : j < l.length), j < k → p l[j].1 l[j].2 = false) (hk : k < l.length) (hD : l.drop k = (f, t) :: l.drop (k + 1)) (h : p f t = true) : l.findIdx (fun s => p s.1 s.2) = k := by
  have e : l[k] = (f, t) := by
    have := List.drop_eq_getElem_cons hk
    rw [hD] at this
    simp only [List.cons.injEq] at this
    exact this.1.symm
  rw [List.findIdx_eq hk]
  refine ⟨by rw [e]; exact h, fun j hj => ?_⟩
  exact hP j (by omega) hj
theorem find_on {l : List (Int × Int)} {p : Int → Int → Bool} {k : Nat} {f t : Int} (hP : ∀ j (h : j < l.length), j < k → p l[j].1 l[j].2 = false) (hk : k < l.length) (hD : l.drop k = (f, t) :: l.drop (k + 1)) (h : p f t = false) : ∀ j (h : j < l.length), j < k + 1 → p l[j].1 l[j].2 = false := by
  intro j hj hjk
  by_cases e : j < k
  · exact hP j hj e
  · obtain rfl : j = k := by omega
    have := List.drop_eq_getElem_cons hk
    rw [hD] at this
    simp only [List.cons.injEq] at this
    rw [← this.1]
    exact h
theorem find_none {l : List (Int × Int)} {p : Int → Int → Bool} (hP : ∀ j (h : j < l.length), j < l.length → p l[j].1 l[j].2 = false) : l.findIdx (fun s => p s.1 s.2) = l.length := by
  rw [List.findIdx_eq_length]
  intro x hx
  obtain ⟨j, hj, rfl⟩ := List.getElem_of_mem hx
  exact hP j hj hj

set_option maxHeartbeats 1000000 in
/-- 'first', with whatever function literal: it captures one value and answers p. -/
theorem first_any (ao : Option Addr) (cap : Nat) (l : List (Int × Int)) (F : Nat) (c : Value) (p : Int → Int → Bool) (w : World) (hl : SpAt w ao cap l)
    (hcf : ∀ (args : Array Value) (wx : World), (callFunc F args).run Try.prog wx = .ok (.enter F args) wx)
    (hp : Hid (∀ (a b : Int) (wx : World), Below w.heap.size w wx → Calls Try.prog F #[.agg #[.int .i64 a, .int .i64 b], c] wx fun e w' => e = .returned (.bool (p a b)) ∧ Below wx.heap.size wx w')) :
    Calls Try.prog 35 #[.slice ao l.length cap, .func (.func F) #[] #[c]] w fun e w' => e = .returned (.int .i64 (l.findIdx fun s => p s.1 s.2)) ∧ Below w.heap.size w w' := by
  have hle := hl.le
  have hmx := hl.max
  unfold maxLen at hmx
  go_enter Try.func35, Try.ntmps35
  go_wp2
  go_loopg [9] l.length (fun g i wr => ∃ (k : Nat), k ≤ l.length ∧ g = l.length - k ∧ i = .int .i64 k ∧ (∀ j (h : j < l.length), j < k → p l[j].1 l[j].2 = false) ∧ Below w.heap.size w wr)
  case atStart => exact ⟨0, Nat.zero_le _, rfl, rfl, fun j _ h => by omega, Below.refl _ _⟩
  case round =>
    obtain ⟨k, hk, rfl, rfl, hP, hB⟩ := hrel
    have hBs := hB.size
    have HP : Aside (∀ j (h : j < l.length), j < k → p l[j].1 l[j].2 = false) := hP
    clear hP
    by_cases hlt : k < l.length
    · obtain ⟨b, off, f, t, rfl, hbw, hd, hc0, hc1⟩ := hl.get hB k hlt
      have HD : Aside (l.drop k = (f, t) :: l.drop (k + 1)) := hd
      clear hd
      cases hpf : p f t
      · go_wp2_with fail
        refine (hp.out f t _ (by go_grown)).mono ?_
        rintro e w1 ⟨rfl, hb1⟩
        rw [hpf]
        go_wp2
        go_roundg (l.length - (k + 1))
        case measure => omega
        case rel => exact ⟨k + 1, by omega, rfl, by go_num, find_on HP.out hlt HD.out hpf, bvia (by go_grown) hb1⟩
      · go_wp2_with fail
        refine (hp.out f t _ (by go_grown)).mono ?_
        rintro e w1 ⟨rfl, hb1⟩
        rw [hpf]
        go_wp2
        go_ret
        exact ⟨ret_int (by rw [find_hit HP.out hlt HD.out hpf]), bvia (by go_grown) hb1⟩
    · obtain rfl : k = l.length := by omega
      go_wp2
      go_ret
      exact ⟨ret_int (by rw [find_none HP.out]), hB⟩

end Go.Proofs.Ytnadhpemmehedaa
