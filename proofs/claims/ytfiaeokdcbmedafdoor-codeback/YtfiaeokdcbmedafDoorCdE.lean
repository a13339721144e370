/- Walks of slices.Index, Contains, ContainsFunc over numbers, Check's literal. -/
import Derived.Test.YtfiaeokdcbmedafDoorCdD
import Derived.Deep.LoopGhost
namespace Go.Proofs.YtfiaeokdcbmedafDoor
open Go.RowKit
set_option linter.unusedSimpArgs false
set_option linter.unusedVariables false

theorem anyN_hit {l : List Nat} {p : Nat → Bool} {k : Nat} {x : Nat} (hk : k < l.length) (hx : l[k] = x) (h : p x = true) : l.any p = true := by
  rw [List.any_eq_true]
  exact ⟨x, by rw [← hx]; exact List.getElem_mem hk, h⟩
theorem anyN_on {l : List Nat} {p : Nat → Bool} {k : Nat} {x : Nat} (hP : (l.drop k).any p = l.any p) (hD : l.drop k = x :: l.drop (k + 1)) (h : p x = false) : (l.drop (k + 1)).any p = l.any p := by
  rw [hD, List.any_cons, h, Bool.false_or] at hP
  exact hP
theorem anyN_none {l : List Nat} {p : Nat → Bool} (hP : (l.drop l.length).any p = l.any p) : l.any p = false := by
  rw [List.drop_of_length_le (Nat.le_refl _)] at hP
  simpa using hP.symm

set_option maxHeartbeats 1000000 in
theorem indexN_any (ao : Option Addr) (cap : Nat) (l : List Nat) (q : Nat) (w : World) (hl : NatsAt w ao cap l) :
    Calls Tryd.prog 29 #[.slice ao l.length cap, .int .i64 q] w fun e w' => ∃ n : Int, e = .returned (.int .i64 n) ∧ decide (0 ≤ n) = l.any (fun x => decide (x = q)) ∧ w = w' := by
  have hle := hl.le
  have hmx := hl.max
  unfold maxLen at hmx
  go_enter Tryd.func29, Tryd.ntmps29
  go_wp2
  go_loopg [8] l.length (fun g i wr => ∃ (k : Nat), k ≤ l.length ∧ g = l.length - k ∧ i = .int .i64 k ∧ (l.drop k).any (fun x => decide (x = q)) = l.any (fun x => decide (x = q)) ∧ wr = w)
  case atStart => exact ⟨0, Nat.zero_le _, rfl, rfl, rfl, rfl⟩
  case round =>
    obtain ⟨k, hk, rfl, rfl, hP, rfl⟩ := hrel
    have HP : Aside ((l.drop k).any (fun x => decide (x = q)) = l.any (fun x => decide (x = q))) := hP
    clear hP
    by_cases hlt : k < l.length
    · obtain ⟨b, off, x, rfl, hbw, hd, hx, hc0⟩ := hl.get (Below.refl _ _) k hlt
      have HD : Aside (l.drop k = x :: l.drop (k + 1)) := hd
      have HX : Aside (l[k] = x) := hx
      clear hd hx
      by_cases hpf : x = q
      · subst hpf
        go_wp2
        go_ret
        exact ⟨_, rfl, by rw [anyN_hit hlt HX.out (by simp), decide_eq_true_iff]; omega, rfl⟩
      · have hq : ((q : Int) == (x : Int)) = false := by simp; omega
        have HN : Aside (¬ x = q) := hpf
        clear hpf
        go_wp2
        go_roundg (l.length - (k + 1))
        case measure => omega
        case rel => exact ⟨k + 1, by omega, rfl, by go_num, anyN_on HP.out HD.out (by simpa using HN.out), rfl⟩
    · obtain rfl : k = l.length := by omega
      go_wp2
      go_ret
      exact ⟨_, rfl, by rw [anyN_none HP.out]; rfl, rfl⟩

set_option maxHeartbeats 1000000 in
theorem containsN_any (ao : Option Addr) (cap : Nat) (l : List Nat) (q : Nat) (w : World) (hl : NatsAt w ao cap l) :
    Calls Tryd.prog 22 #[.slice ao l.length cap, .int .i64 q] w fun e w' => e = .returned (.bool (l.any (fun x => decide (x = q)))) ∧ w = w' := by
  go_enter Tryd.func22, Tryd.ntmps22
  go_wp2_with fail
  refine (indexN_any ao cap l q w hl).mono ?_
  rintro e w1 ⟨n, rfl, hn, rfl⟩
  have HN := show Aside _ from hn
  clear hn
  go_wp2
  go_ret
  exact ⟨ret_bool HN.out, rfl⟩

/-- Is the number of a part none that it may be? -/
def P.off (n : Nat → Int) (p : Nat) : Bool := decide (n p < 0) || decide (P.mostOf p < n p)

set_option maxHeartbeats 1000000 in
theorem check1_any (n : Nat → Int) (p N : Nat) (w : World) (hp : p < 9) (hP : PartsAt w) (hc : ∀ j, j < 9 → w.cell? ⟨N, j, none⟩ = some (.int .i64 (n j))) :
    Calls Tryd.prog 24 #[.int .i64 p, .pointer (some ⟨N, 0, none⟩)] w fun e w' => e = .returned (.bool (P.off n p)) ∧ Below w.heap.size w w' := by
  have c0 := hc p hp
  have c1 := hP.most p hp
  have i0 : (0 : Int) ≤ (p : Int) := by omega
  have i1 : (p : Int) < 9 := by omega
  clear hc
  by_cases h : n p < 0
  · have HE : Aside (P.off n p = true) := by show _ = _; simp [P.off, h]
    have h' : decide (n p < 0) = true := by simpa using h
    go_enter Tryd.func24, Tryd.ntmps24
    go_wp2
    go_quiet (fail)
    go_wp2
    go_ret
    exact ⟨ret_bool HE.out.symm, below_drewN (Below.refl _ _) _⟩
  · have h' : decide (n p < 0) = false := by simpa using h
    have HE : Aside (P.off n p = decide (P.mostOf p < n p)) := by show _ = _; simp [P.off, h']
    go_enter Tryd.func24, Tryd.ntmps24
    go_wp2
    go_quiet (fail)
    go_wp2
    go_ret
    exact ⟨ret_bool HE.out.symm, below_drewN (Below.refl _ _) _⟩

end Go.Proofs.YtfiaeokdcbmedafDoor
