/- Walks of the leaves of package ship. -/
import Derived.Test.YtnadhpemmehedaaGenA
import Derived.Deep.LoopGhost
import Derived.WalkSmall
namespace Go.Proofs.Ytnadhpemmehedaa
open Go.RowKit
set_option linter.unusedSimpArgs false
set_option linter.unusedVariables false

set_option maxHeartbeats 400000 in
theorem within_any (n a b : Int) (w : World) :
    Calls Try.prog 42 #[.int .i64 n, .int .i64 a, .int .i64 b] w fun e w' => e = .returned (.bool (P.btw n a b)) ∧ w = w' := by
  by_cases h1 : a ≤ n <;> by_cases h2 : n ≤ b
  all_goals
    go_enter Try.func42, Try.ntmps42
    go_wp2
    go_ret
    simp [P.btw, h1, h2]

/-- The least number below n of which p holds; n, if there is none. -/
def P.least (p : Nat → Bool) (n : Nat) : Nat := (List.range n).findIdx p

theorem least_hit {p : Nat → Bool} {n k : Nat} (hk : k < n) (h : p k = true) (hP : ∀ j, j < k → p j = false) : P.least p n = k := by
  unfold P.least
  rw [List.findIdx_eq (by simpa using hk)]
  refine ⟨by simpa using h, fun j hj => ?_⟩
  simpa using hP j hj
theorem least_none {p : Nat → Bool} {n : Nat} (hP : ∀ j, j < n → p j = false) : P.least p n = n := by
  have : (List.range n).findIdx p = (List.range n).length := by
    rw [List.findIdx_eq_length]
    intro x hx
    exact hP x (by simpa using hx)
  simpa [P.least] using this

set_option maxHeartbeats 1000000 in
/-- 'first', with whatever function literal that answers p. -/
theorem shipFirst_any (n F : Nat) (cs : Array Value) (p : Nat → Bool) (w : World) (hn : n ≤ 1000)
    (hcf : ∀ (args : Array Value) (wx : World), (callFunc F args).run Try.prog wx = .ok (.enter F args) wx)
    (hp : Hid (∀ (k : Nat) (wx : World), k < n → Below w.heap.size w wx → Calls Try.prog F (#[.int .i64 k] ++ cs) wx fun e w' => e = .returned (.bool (p k)) ∧ Below wx.heap.size wx w')) :
    Calls Try.prog 48 #[.int .i64 n, .func (.func F) #[] cs] w fun e w' => e = .returned (.int .i64 (P.least p n)) ∧ Below w.heap.size w w' := by
  go_enter Try.func48, Try.ntmps48
  go_wp2
  go_loopg [7] n (fun g i wr => ∃ (k : Nat), k ≤ n ∧ g = n - k ∧ i = .int .i64 k ∧ (∀ j, j < k → p j = false) ∧ Below w.heap.size w wr)
  case atStart => exact ⟨0, Nat.zero_le _, rfl, rfl, fun j h => by omega, Below.refl _ _⟩
  case round =>
    obtain ⟨k, hk, rfl, rfl, hP, hB⟩ := hrel
    have HP : Aside (∀ j, j < k → p j = false) := hP
    clear hP
    by_cases hlt : k < n
    · cases hpf : p k
      · go_wp2_with fail
        refine (hp.out k _ hlt hB).mono ?_
        rintro e w1 ⟨rfl, hb1⟩
        rw [hpf]
        go_wp2
        go_roundg (n - (k + 1))
        case measure => omega
        case rel => exact ⟨k + 1, by omega, rfl, by go_num, fun j hj => by rcases Nat.lt_or_ge j k with h | h; exact HP.out j h; obtain rfl : j = k := (by omega); exact hpf, bvia hB hb1⟩
      · go_wp2_with fail
        refine (hp.out k _ hlt hB).mono ?_
        rintro e w1 ⟨rfl, hb1⟩
        rw [hpf]
        go_wp2
        go_ret
        exact ⟨ret_int (by rw [least_hit hlt hpf HP.out]), bvia hB hb1⟩
    · obtain rfl : k = n := by omega
      go_wp2
      go_ret
      exact ⟨ret_int (by rw [least_none HP.out]), hB⟩

def P.some (p : Nat → Bool) (n : Nat) : Bool := (List.range n).any p
theorem some_least (p : Nat → Bool) (n : Nat) : decide (P.least p n < n) = P.some p n := by
  have h1 : P.least p n < n ↔ P.some p n = true := by
    unfold P.least P.some
    have := List.findIdx_lt_length (p := p) (xs := List.range n)
    rw [List.length_range] at this
    rw [this, List.any_eq_true]
  cases h : P.some p n
  · rw [decide_eq_false_iff_not]; intro hc; have := h1.1 (by omega); rw [h] at this; cases this
  · rw [decide_eq_true_iff]; have := h1.2 h; omega

set_option maxHeartbeats 1000000 in
theorem has_any (n F : Nat) (cs : Array Value) (p : Nat → Bool) (w : World) (hn : n ≤ 1000)
    (hcf : ∀ (args : Array Value) (wx : World), (callFunc F args).run Try.prog wx = .ok (.enter F args) wx)
    (hp : Hid (∀ (k : Nat) (wx : World), k < n → Below w.heap.size w wx → Calls Try.prog F (#[.int .i64 k] ++ cs) wx fun e w' => e = .returned (.bool (p k)) ∧ Below wx.heap.size wx w')) :
    Calls Try.prog 46 #[.int .i64 n, .func (.func F) #[] cs] w fun e w' => e = .returned (.bool (P.some p n)) ∧ Below w.heap.size w w' := by
  have HS : Aside (decide (P.least p n < n) = P.some p n) := some_least p n
  go_enter Try.func46, Try.ntmps46
  go_wp2_with (go_at_call 48; refine (shipFirst_any n F cs p _ hn hcf hp).mono ?_; rintro e w1 ⟨rfl, hb1⟩)
  go_ret
  exact ⟨ret_bool HS.out, hb1⟩

def P.sign (c : Nat) : Bool := (decide (65 ≤ c) && decide (c ≤ 90)) || (decide (48 ≤ c) && decide (c ≤ 57))

set_option maxHeartbeats 400000 in
theorem isSign_any (c : Nat) (w : World) :
    Calls Try.prog 61 #[.int .u8 c] w fun e w' => e = .returned (.bool (P.sign c)) ∧ w = w' := by
  by_cases h1 : 65 ≤ c <;> by_cases h2 : c ≤ 90 <;> by_cases h3 : 48 ≤ c <;> by_cases h4 : c ≤ 57
  all_goals first
    | (exfalso; omega)
    | (go_enter Try.func61, Try.ntmps61
       go_wp2
       go_ret
       simp [P.sign, h1, h2, h3, h4]
       try omega)

end Go.Proofs.Ytnadhpemmehedaa
