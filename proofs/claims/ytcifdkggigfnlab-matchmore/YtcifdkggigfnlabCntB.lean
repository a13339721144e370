/- Walks of IndexFunc, ContainsFunc, count.Check, CheckCount, checkBoth, checkAll, CheckMore. -/
import Derived.Test.YtcifdkggigfnlabCntA
namespace Go.Proofs.Ytcifdkggigfnlab
open Go.RowKit
set_option linter.unusedSimpArgs false
set_option linter.unusedVariables false

theorem getI {l : List Int} {k : Nat} {x : Int} (hk : k < l.length) (hD : l.drop k = x :: l.drop (k + 1)) : l[k] = x := by
  have := List.drop_eq_getElem_cons hk
  rw [hD] at this
  simp only [List.cons.injEq] at this
  exact this.1.symm
theorem any_hit {l : List Int} {p : Int → Bool} {k : Nat} {x : Int} (hk : k < l.length) (hD : l.drop k = x :: l.drop (k + 1)) (h : p x = true) : l.any p = true := by
  rw [List.any_eq_true]
  exact ⟨x, by have := getI hk hD; rw [← this]; exact List.getElem_mem hk, h⟩
theorem any_on {l : List Int} {p : Int → Bool} {k : Nat} {x : Int} (hP : (l.drop k).any p = l.any p) (hD : l.drop k = x :: l.drop (k + 1)) (h : p x = false) : (l.drop (k + 1)).any p = l.any p := by
  rw [hD, List.any_cons, h, Bool.false_or] at hP
  exact hP
theorem any_none {l : List Int} {p : Int → Bool} (hP : (l.drop l.length).any p = l.any p) : l.any p = false := by
  rw [List.drop_of_length_le (Nat.le_refl _)] at hP
  simpa using hP.symm

set_option maxHeartbeats 1000000 in
/-- 'IndexFunc', with whatever function literal that answers p: it is below 0 just if there is none. -/
theorem indexFunc_any (ao : Option Addr) (cap : Nat) (l : List Int) (F : Nat) (cs : Array Value) (p : Int → Bool) (w : World) (hl : IntsAt w ao cap l)
    (hcf : ∀ (args : Array Value) (wx : World), (callFunc F args).run Try.prog wx = .ok (.enter F args) wx)
    (hp : Hid (∀ (x : Int) (wx : World), x ∈ l → Below w.heap.size w wx → Calls Try.prog F (#[.int .i64 x] ++ cs) wx fun e w' => e = .returned (.bool (p x)) ∧ Below wx.heap.size wx w')) :
    Calls Try.prog 51 #[.slice ao l.length cap, .func (.func F) #[] cs] w fun e w' => ∃ n : Int, e = .returned (.int .i64 n) ∧ decide (0 ≤ n) = l.any p ∧ Below w.heap.size w w' := by
  have hle := hl.le
  have hmx := hl.max
  unfold maxLen at hmx
  go_enter Try.func51, Try.ntmps51
  go_wp2
  go_loopg [8] l.length (fun g i wr => ∃ (k : Nat), k ≤ l.length ∧ g = l.length - k ∧ i = .int .i64 k ∧ (l.drop k).any p = l.any p ∧ Below w.heap.size w wr)
  case atStart => exact ⟨0, Nat.zero_le _, rfl, rfl, rfl, Below.refl _ _⟩
  case round =>
    obtain ⟨k, hk, rfl, rfl, hP, hB⟩ := hrel
    have HP : Aside ((l.drop k).any p = l.any p) := hP
    clear hP
    by_cases hlt : k < l.length
    · obtain ⟨b, off, x, rfl, hbw, hd, hc0⟩ := hl.get hB k hlt
      have HD : Aside (l.drop k = x :: l.drop (k + 1)) := hd
      have hx : x ∈ l := by rw [← getI hlt hd]; exact List.getElem_mem hlt
      clear hd
      cases hpf : p x
      · go_wp2_with fail
        refine (hp.out x _ hx hB).mono ?_
        rintro e w1 ⟨rfl, hb1⟩
        rw [hpf]
        go_wp2
        go_roundg (l.length - (k + 1))
        case measure => omega
        case rel => exact ⟨k + 1, by omega, rfl, by go_num, any_on HP.out HD.out hpf, bvia hB hb1⟩
      · go_wp2_with fail
        refine (hp.out x _ hx hB).mono ?_
        rintro e w1 ⟨rfl, hb1⟩
        rw [hpf]
        go_wp2
        go_ret
        exact ⟨_, rfl, by rw [any_hit hlt HD.out hpf, decide_eq_true_iff]; omega, bvia hB hb1⟩
    · obtain rfl : k = l.length := by omega
      go_wp2
      go_ret
      exact ⟨_, rfl, by rw [any_none HP.out]; rfl, hB⟩

set_option maxHeartbeats 1000000 in
theorem containsFunc_any (ao : Option Addr) (cap : Nat) (l : List Int) (F : Nat) (cs : Array Value) (p : Int → Bool) (w : World) (hl : IntsAt w ao cap l)
    (hcf : ∀ (args : Array Value) (wx : World), (callFunc F args).run Try.prog wx = .ok (.enter F args) wx)
    (hp : Hid (∀ (x : Int) (wx : World), x ∈ l → Below w.heap.size w wx → Calls Try.prog F (#[.int .i64 x] ++ cs) wx fun e w' => e = .returned (.bool (p x)) ∧ Below wx.heap.size wx w')) :
    Calls Try.prog 41 #[.slice ao l.length cap, .func (.func F) #[] cs] w fun e w' => e = .returned (.bool (l.any p)) ∧ Below w.heap.size w w' := by
  go_enter Try.func41, Try.ntmps41
  go_wp2_with fail
  refine (indexFunc_any ao cap l F cs p w hl hcf hp).mono ?_
  rintro e w1 ⟨n, rfl, hn, hb1⟩
  have HN : Aside (decide (0 ≤ n) = l.any p) := hn
  clear hn
  go_wp2
  go_ret
  exact ⟨ret_bool (by rw [← HN.out]), hb1⟩

def P.cntE (l : List Int) (n : Int) : Int := if P.sails n = true then (if (l.length : Int) = n then (if l.any (fun x => !P.btw x 0 60) = true then 3 else 0) else 1) else 3

theorem arr1 (a : Value) : (#[a] ++ #[] : Array Value) = #[a] := rfl
theorem arr2 (a b : Value) : (#[a] ++ #[b] : Array Value) = #[a, b] := rfl
theorem arr3 (a b c : Value) : (#[a] ++ #[b, c] : Array Value) = #[a, b, c] := rfl

set_option maxHeartbeats 400000 in
theorem cntCheck1_any (x : Int) (w : World) : Calls Try.prog 42 #[.int .i64 x] w fun e w' => e = .returned (.bool (!P.btw x 0 60)) ∧ Below w.heap.size w w' := by
  go_enter Try.func42, Try.ntmps42
  go_wp2_with (go_at_call 34; refine (mayBe_any _ _).mono ?_; rintro e w1 ⟨rfl, rfl⟩)
  go_ret
  exact ⟨rfl, Below.refl _ _⟩

theorem cntAll_any (ao : Option Addr) (cap : Nat) (l : List Int) (w : World) (hl : IntsAt w ao cap l) :
    Calls Try.prog 41 #[.slice ao l.length cap, .func (.func 42) #[] #[]] w fun e w' => e = .returned (.bool (l.any (fun x => !P.btw x 0 60))) ∧ Below w.heap.size w w' :=
  containsFunc_any ao cap l 42 #[] _ w hl (fun args wx => by go_simp) (fun x wx _ _ => by rw [arr1]; exact cntCheck1_any x wx)

theorem sails_int (n : Int) : P.sails n = (decide (1 ≤ n) && decide (n ≤ 7)) := rfl

set_option maxHeartbeats 1000000 in
theorem cntCheck_any (ao : Option Addr) (cap : Nat) (l : List Int) (n : Int) (w : World) (hl : IntsAt w ao cap l) :
    Calls Try.prog 17 #[.slice ao l.length cap, .int .i64 n] w fun e w' => e = .returned (.int .i64 (P.cntE l n)) ∧ Below w.heap.size w w' := by
  have hle := hl.le
  have hmx := hl.max
  unfold maxLen at hmx
  by_cases h1 : n < 1
  · have HE : Aside (P.cntE l n = 3) := by show _ = _; rw [P.cntE, if_neg (by simp [P.sails]; omega)]
    go_enter Try.func17, Try.ntmps17
    go_wp2
    go_ret
    exact ⟨ret_int HE.out.symm, Below.refl _ _⟩
  · by_cases h2 : 7 < n
    · have HE : Aside (P.cntE l n = 3) := by show _ = _; rw [P.cntE, if_neg (by simp [P.sails]; omega)]
      go_enter Try.func17, Try.ntmps17
      go_wp2
      go_ret
      exact ⟨ret_int HE.out.symm, Below.refl _ _⟩
    · have hs : P.sails n = true := by simp [P.sails]; omega
      by_cases h3 : (l.length : Int) = n
      · have h3' : ((l.length : Int) != n) = false := by simpa using h3
        cases h4 : l.any (fun x => !P.btw x 0 60)
        · have HE : Aside (P.cntE l n = 0) := by show _ = _; rw [P.cntE, if_pos hs, if_pos h3, h4]; rfl
          clear h3
          go_enter Try.func17, Try.ntmps17
          go_wp2_with (go_at_call 41; refine (cntAll_any ao cap l w hl).mono ?_; rintro e w1 ⟨rfl, hb1⟩; rw [h4])
          go_ret
          exact ⟨ret_int HE.out.symm, hb1⟩
        · have HE : Aside (P.cntE l n = 3) := by show _ = _; rw [P.cntE, if_pos hs, if_pos h3, h4]; rfl
          clear h3
          go_enter Try.func17, Try.ntmps17
          go_wp2_with (go_at_call 41; refine (cntAll_any ao cap l w hl).mono ?_; rintro e w1 ⟨rfl, hb1⟩; rw [h4])
          go_ret
          exact ⟨ret_int HE.out.symm, hb1⟩
      · have h3' : ((l.length : Int) != n) = true := by simpa using h3
        have HE : Aside (P.cntE l n = 1) := by show _ = _; rw [P.cntE, if_pos hs, if_neg h3]
        go_enter Try.func17, Try.ntmps17
        go_wp2
        go_ret
        exact ⟨ret_int HE.out.symm, Below.refl _ _⟩

set_option maxHeartbeats 1000000 in
theorem refCount_any (ao : Option Addr) (cap : Nat) (l : List Int) (n : Int) (w : World) (hl : IntsAt w ao cap l) :
    Calls Try.prog 18 #[.slice ao l.length cap, .int .i64 n] w fun e w' => e = .returned (.int .i64 (P.cntE l n)) ∧ Below w.heap.size w w' := by
  have hle := hl.le
  have hmx := hl.max
  unfold maxLen at hmx
  cases hs : P.sails n
  · have HE : Aside (P.cntE l n = 3) := by show _ = _; rw [P.cntE, hs]; rfl
    go_enter Try.func18, Try.ntmps18
    go_wp2_with (go_at_call 40; refine (between17_any _ _).mono ?_; rintro e w' ⟨rfl, rfl⟩; rw [hs])
    go_ret
    exact ⟨ret_int HE.out.symm, Below.refl _ _⟩
  · by_cases h3 : (l.length : Int) = n
    · have h3' : ((l.length : Int) != n) = false := by simpa using h3
      have HE : Aside (P.cntE l n = if l.any (fun x => !P.btw x 0 60) = true then 3 else 0) := by show _ = _; rw [P.cntE, if_pos hs, if_pos h3]
      clear h3
      go_enter Try.func18, Try.ntmps18
      go_wp2_with (go_at_call 40; refine (between17_any _ _).mono ?_; rintro e w' ⟨rfl, rfl⟩; rw [hs])
      go_loopg [5] l.length (fun g i wr => ∃ (k : Nat), k ≤ l.length ∧ g = l.length - k ∧ i = .int .i64 k ∧ (l.drop k).any (fun x => !P.btw x 0 60) = l.any (fun x => !P.btw x 0 60) ∧ wr = w)
      case atStart => exact ⟨0, Nat.zero_le _, rfl, rfl, rfl, rfl⟩
      case round =>
        obtain ⟨k, hk, rfl, rfl, hP, rfl⟩ := hrel
        have HP : Aside ((l.drop k).any (fun x => !P.btw x 0 60) = l.any (fun x => !P.btw x 0 60)) := hP
        clear hP
        by_cases hlt : k < l.length
        · obtain ⟨b, off, x, rfl, hbw, hd, hc0⟩ := hl.get (Below.refl _ _) k hlt
          have HD : Aside (l.drop k = x :: l.drop (k + 1)) := hd
          clear hd
          cases hb : P.btw x 0 60
          · go_wp2_with (go_at_call 40; refine (between_any _ _ _ _).mono ?_; rintro e w' ⟨rfl, rfl⟩; rw [hb])
            go_ret
            exact ⟨ret_int (by rw [HE.out, any_hit hlt HD.out (by rw [hb]; rfl)]; rfl), Below.refl _ _⟩
          · go_wp2_with (go_at_call 40; refine (between_any _ _ _ _).mono ?_; rintro e w' ⟨rfl, rfl⟩; rw [hb])
            go_roundg (l.length - (k + 1))
            case measure => omega
            case rel => exact ⟨k + 1, by omega, rfl, by go_num, any_on HP.out HD.out (by rw [hb]; rfl), rfl⟩
        · obtain rfl : k = l.length := by omega
          go_wp2
          go_ret
          exact ⟨ret_int (by rw [HE.out, any_none HP.out]; rfl), Below.refl _ _⟩
    · have h3' : ((l.length : Int) != n) = true := by simpa using h3
      have HE : Aside (P.cntE l n = 1) := by show _ = _; rw [P.cntE, if_pos hs, if_neg h3]
      go_enter Try.func18, Try.ntmps18
      go_wp2_with (go_at_call 40; refine (between17_any _ _).mono ?_; rintro e w' ⟨rfl, rfl⟩; rw [hs])
      go_ret
      exact ⟨ret_int HE.out.symm, Below.refl _ _⟩

def P.cntB (l : List Int) (n f t : Int) : Int := if P.cntE l n = 0 then P.chk f t n else P.cntE l n
def P.cntA (l : List Int) (n f t m : Int) : Int := if P.cntB l n f t = 0 then (if P.btw m 0 60 = true then 0 else 3) else P.cntB l n f t

theorem cntE_zero {l : List Int} {n : Int} (h : P.cntE l n = 0) : (l.length : Int) = n ∧ 1 ≤ n ∧ n ≤ 7 ∧ ∀ x ∈ l, 0 ≤ x ∧ x ≤ 60 := by
  unfold P.cntE at h
  split at h
  · rename_i hs
    simp [P.sails] at hs
    split at h
    · rename_i h2
      split at h
      · omega
      · rename_i h3
        refine ⟨h2, hs.1, hs.2, fun x hx => ?_⟩
        have := (Bool.not_eq_true _).mp h3
        rw [List.any_eq_false] at this
        have := this x hx
        simpa [P.btw] using this
    · omega
  · omega
theorem cntB_zero {l : List Int} {n f t : Int} (h : P.cntB l n f t = 0) : (l.length : Int) = n ∧ 1 ≤ n ∧ n ≤ 7 ∧ (∀ x ∈ l, 0 ≤ x ∧ x ≤ 60) ∧ 0 ≤ f ∧ f < t ∧ t ≤ n ∧ P.cntE l n = 0 := by
  unfold P.cntB at h
  split at h
  · rename_i h1
    obtain ⟨a, b, c, d⟩ := cntE_zero h1
    obtain ⟨x, y, z, _⟩ := chk_zero h
    exact ⟨a, b, c, d, x, y, z, h1⟩
  · contradiction
theorem cntA_zero {l : List Int} {n f t m : Int} (h : P.cntA l n f t m = 0) : P.cntB l n f t = 0 ∧ 0 ≤ m ∧ m ≤ 60 := by
  unfold P.cntA at h
  split at h
  · rename_i h1
    split at h
    · rename_i h2
      simp [P.btw] at h2
      exact ⟨h1, h2.1, h2.2⟩
    · omega
  · contradiction

set_option maxHeartbeats 1000000 in
theorem cntBoth_any (ao : Option Addr) (cap : Nat) (l : List Int) (n f t : Int) (w : World) (hl : IntsAt w ao cap l) :
    Calls Try.prog 36 #[.slice ao l.length cap, .int .i64 n, .agg #[.int .i64 f, .int .i64 t]] w fun e w' => e = .returned (.int .i64 (P.cntB l n f t)) ∧ Below w.heap.size w w' := by
  cases hz : (P.cntE l n != 0)
  · have HC : Aside (P.cntB l n f t = P.chk f t n) := by show _ = _; rw [P.cntB, if_pos (by simpa using hz)]
    go_enter Try.func36, Try.ntmps36
    go_wp2_with (first
      | (go_at_call 17; refine (cntCheck_any _ _ _ _ _ (SlAt.below RInt.mono hl (by go_grown))).mono ?_; rintro e w1 ⟨rfl, hb1⟩; obtain ⟨hcc, hff⟩ := bcell hb1)
      | (go_at_call 50; refine (check_any _ _ _ _).mono ?_; rintro e w2 ⟨rfl, hb2⟩))
    go_ret
    exact ⟨ret_int HC.out.symm, bvia (bvia (by go_grown) hb1) hb2⟩
  · have HC : Aside (P.cntB l n f t = P.cntE l n) := by show _ = _; rw [P.cntB, if_neg (by simpa using hz)]
    go_enter Try.func36, Try.ntmps36
    go_wp2_with (go_at_call 17; refine (cntCheck_any _ _ _ _ _ (SlAt.below RInt.mono hl (by go_grown))).mono ?_; rintro e w1 ⟨rfl, hb1⟩)
    go_ret
    exact ⟨ret_int HC.out.symm, bvia (by go_grown) hb1⟩

set_option maxHeartbeats 1000000 in
theorem cntAllE_any (ao : Option Addr) (cap : Nat) (l : List Int) (n f t m : Int) (w : World) (hl : IntsAt w ao cap l) :
    Calls Try.prog 29 #[.slice ao l.length cap, .int .i64 n, .agg #[.int .i64 f, .int .i64 t], .int .i64 m] w fun e w' => e = .returned (.int .i64 (P.cntA l n f t m)) ∧ Below w.heap.size w w' := by
  cases hz : (P.cntB l n f t != 0)
  · cases hm : P.btw m 0 60
    · have HC : Aside (P.cntA l n f t m = 3) := by show _ = _; rw [P.cntA, if_pos (by simpa using hz), hm]; rfl
      go_enter Try.func29, Try.ntmps29
      go_wp2_with (first
        | (go_at_call 36; refine (cntBoth_any _ _ _ _ _ _ _ (SlAt.below RInt.mono hl (by go_grown))).mono ?_; rintro e w1 ⟨rfl, hb1⟩)
        | (go_at_call 34; refine (mayBe_any _ _).mono ?_; rintro e w2 ⟨rfl, rfl⟩; rw [hm]))
      go_ret
      exact ⟨ret_int HC.out.symm, bvia (by go_grown) hb1⟩
    · have HC : Aside (P.cntA l n f t m = 0) := by show _ = _; rw [P.cntA, if_pos (by simpa using hz), hm]; rfl
      go_enter Try.func29, Try.ntmps29
      go_wp2_with (first
        | (go_at_call 36; refine (cntBoth_any _ _ _ _ _ _ _ (SlAt.below RInt.mono hl (by go_grown))).mono ?_; rintro e w1 ⟨rfl, hb1⟩)
        | (go_at_call 34; refine (mayBe_any _ _).mono ?_; rintro e w2 ⟨rfl, rfl⟩; rw [hm]))
      go_ret
      exact ⟨ret_int HC.out.symm, bvia (by go_grown) hb1⟩
  · have HC : Aside (P.cntA l n f t m = P.cntB l n f t) := by show _ = _; rw [P.cntA, if_neg (by simpa using hz)]
    go_enter Try.func29, Try.ntmps29
    go_wp2_with (go_at_call 36; refine (cntBoth_any _ _ _ _ _ _ _ (SlAt.below RInt.mono hl (by go_grown))).mono ?_; rintro e w1 ⟨rfl, hb1⟩)
    go_ret
    exact ⟨ret_int HC.out.symm, bvia (by go_grown) hb1⟩

end Go.Proofs.Ytcifdkggigfnlab
