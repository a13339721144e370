/- Entries in memory; walks of isAmount, checkEntry, every, Cancel's literal. -/
import Derived.Test.YtagjlckmemmflacFarB
namespace Go.Proofs.Ytagjlckmemmflac
open Go.RowKit
set_option linter.unusedSimpArgs false
set_option linter.unusedVariables false

/-- An entry: its day, its kind, its amount. -/
abbrev Ent := Int × Int × Int
def REnt (_ : World) (x : Ent) (cs : List Value) : Prop := cs = [.int .i64 x.1, .int .i64 x.2.1, .int .i64 x.2.2]
theorem REnt.mono : Mono REnt := fun _ _ _ _ _ h => h
abbrev EntsAt (w : World) (ao : Option Addr) (cap : Nat) (l : List Ent) : Prop := SlAt REnt 3 w ao cap l
abbrev V.ent (x : Ent) : Value := .agg #[.int .i64 x.1, .int .i64 x.2.1, .int .i64 x.2.2]

theorem EntsAt.get {w w' : World} {ao : Option Addr} {cap : Nat} {l : List Ent} (h : EntsAt w ao cap l) (hb : Below w.heap.size w w') (k : Nat) (hk : k < l.length) :
    ∃ b off x y z, ao = some ⟨b, off, none⟩ ∧ b < w.heap.size ∧ l.drop k = (x, y, z) :: l.drop (k + 1) ∧ w'.cell? ⟨b, off + k * 3, none⟩ = some (.int .i64 x) ∧ w'.cell? ⟨b, off + k * 3 + 1, none⟩ = some (.int .i64 y) ∧ w'.cell? ⟨b, off + k * 3 + 2, none⟩ = some (.int .i64 z) := by
  obtain ⟨b, off, ⟨x, y, z⟩, cs, h1, h2, h3, h4, h5, h6⟩ := SlAt.get REnt.mono h hb k hk
  subst h4
  exact ⟨b, off, x, y, z, h1, h2, h3, by simpa using h6 0 _ rfl, by simpa using h6 1 _ rfl, by simpa using h6 2 _ rfl⟩

abbrev P.amt (n : Int) : Bool := P.btw n (-100000000) 100000000

set_option maxHeartbeats 400000 in
theorem isAmount_any (n : Int) (w : World) :
    Calls Try.prog 50 #[.int .i64 n] w fun e w' => e = .returned (.bool (P.amt n)) ∧ w = w' := by
  by_cases h1 : -100000000 ≤ n <;> by_cases h2 : n ≤ 100000000
  all_goals
    go_enter Try.func50, Try.ntmps50
    go_wp2
    go_ret
    simp [P.amt, P.btw, h1, h2]

/-- F1 of one entry by itself. -/
def P.entB (x : Ent) : Int := if P.btw x.2.1 1 4 = true then (if P.btw x.1 0 9999 = true ∧ P.amt x.2.2 = true then (if x.2.2 < 0 ∧ (x.2.1 = 1 ∨ x.2.1 = 3) ∨ 0 < x.2.2 ∧ x.2.1 = 2 then 4 else 0) else 3) else 7
/-- F1 of one entry behind one of a day. -/
def P.entE (x : Ent) (day : Int) : Int := if P.entB x = 0 then (if x.1 < day then 4 else 0) else P.entB x

set_option maxHeartbeats 4000000 in
theorem checkEntry_any (d k a day : Int) (w : World) :
    Calls Try.prog 48 #[.agg #[.int .i64 d, .int .i64 k, .int .i64 a], .int .i64 day] w fun e w' => e = .returned (.int .i64 (P.entE (d, k, a) day)) ∧ Below w.heap.size w w' := by
  by_cases hk : 1 ≤ k ∧ k ≤ 4
  rotate_left
  · have HE : Aside (P.entE (d, k, a) day = 7) := by
      have : P.entB (d, k, a) = 7 := by rw [P.entB, if_neg (by simp [P.btw]; omega)]
      show _ = _; rw [P.entE, this]; rfl
    by_cases h1 : k < 1
    · go_enter Try.func48, Try.ntmps48
      go_wp2
      go_ret
      exact ⟨ret_int HE.out.symm, by go_grown⟩
    · have h2 : 4 < k := by omega
      go_enter Try.func48, Try.ntmps48
      go_wp2
      go_ret
      exact ⟨ret_int HE.out.symm, by go_grown⟩
  have k1 : ¬ k < 1 := by omega
  have k2 : ¬ 4 < k := by omega
  by_cases hd : 0 ≤ d ∧ d ≤ 9999
  rotate_left
  · have HE : Aside (P.entE (d, k, a) day = 3) := by
      have : P.entB (d, k, a) = 3 := by rw [P.entB, if_pos (by simp [P.btw]; omega), if_neg (by simp [P.btw]; omega)]
      show _ = _; rw [P.entE, this]; rfl
    by_cases h1 : d < 0
    · go_enter Try.func48, Try.ntmps48
      go_wp2
      go_ret
      exact ⟨ret_int HE.out.symm, by go_grown⟩
    · have h2 : 9999 < d := by omega
      go_enter Try.func48, Try.ntmps48
      go_wp2
      go_ret
      exact ⟨ret_int HE.out.symm, by go_grown⟩
  have d1 : ¬ d < 0 := by omega
  have d2 : ¬ 9999 < d := by omega
  cases ha : P.amt a
  · have HE : Aside (P.entE (d, k, a) day = 3) := by
      have : P.entB (d, k, a) = 3 := by rw [P.entB, if_pos (by simp [P.btw]; omega), if_neg (by simp [ha])]
      show _ = _; rw [P.entE, this]; rfl
    go_enter Try.func48, Try.ntmps48
    go_wp2_with (go_at_call 50; refine (isAmount_any _ _).mono ?_; rintro e w1 ⟨rfl, rfl⟩; rw [ha])
    go_ret
    exact ⟨ret_int HE.out.symm, by go_grown⟩
  have HB : Aside (P.entB (d, k, a) = if a < 0 ∧ (k = 1 ∨ k = 3) ∨ 0 < a ∧ k = 2 then 4 else 0) := by
    show _ = _
    rw [P.entB, if_pos (by simp [P.btw]; omega), if_pos ⟨by simp [P.btw]; omega, ha⟩]
  rcases (show k = 1 ∨ k = 2 ∨ k = 3 ∨ k = 4 by omega) with rfl | rfl | rfl | rfl <;> rcases Int.lt_trichotomy a 0 with h0 | rfl | h0 <;> by_cases hy : d < day
  all_goals
    try (have n1 : ¬ a < 0 := by omega)
    try (have n2 : ¬ 0 < a := by omega)
    go_enter Try.func48, Try.ntmps48
    go_wp2_with (go_at_call 50; refine (isAmount_any _ _).mono ?_; rintro e w1 ⟨rfl, rfl⟩; rw [ha])
    go_ret
    exact ⟨ret_int (by rw [P.entE, HB.out]; simp <;> omega), by go_grown⟩

end Go.Proofs.Ytagjlckmemmflac
