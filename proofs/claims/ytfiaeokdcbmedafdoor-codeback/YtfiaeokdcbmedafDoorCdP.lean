/- What is encoded is decoded as it was. -/
import Derived.Test.YtfiaeokdcbmedafDoorCdM
import Derived.Test.YtfiaeokdcbmedafDoorCdJ
namespace Go.Proofs.YtfiaeokdcbmedafDoor
open Go.RowKit
set_option linter.unusedSimpArgs false
set_option linter.unusedVariables false

theorem wh_be : ∀ (m : Nat) (n : Int), 0 ≤ n → n < 256 ^ m → (P.wh (P.be n m) : Int) = n := by
  intro m
  induction m with
  | zero => intro n h0 h1; simp at h1; have : n = 0 := by omega
            subst this; rfl
  | succ m ih =>
    intro n h0 h1
    rw [P.be, wh_snoc]
    have h2 := ih (n / 256) (by omega) (by rw [Int.pow_succ] at h1; generalize (256 : Int) ^ m = X at *; omega)
    have hb : ((P.byte n).toNat : Int) = n % 256 := by rw [← byte_wrap]; simp [IntKind.wrap, IntKind.signed, IntKind.bits]
    rw [Int.natCast_add, Int.natCast_mul, h2, hb]
    omega

theorem readN_rest (f : Nat → Int) : ∀ (ps : List Nat) (n : Nat → Int), ps.Nodup → (∀ p ∈ ps, 0 ≤ f p ∧ f p < 256 ^ P.size p) → ∀ j, P.readN ps (P.rest f ps) n j = if j ∈ ps then f j else n j := by
  intro ps
  induction ps with
  | nil => intro n _ _ j; simp [P.readN]
  | cons p ps ih =>
    intro n hnd hb j
    obtain ⟨hp, hnd⟩ := List.nodup_cons.1 hnd
    have hc : P.rest f (p :: ps) = P.be (f p) (P.size p) ++ P.rest f ps := by unfold P.rest; rw [List.flatMap_cons]
    have hl := be_len (P.size p) (f p)
    have ht : (P.be (f p) (P.size p) ++ P.rest f ps).take (P.size p) = P.be (f p) (P.size p) := by rw [List.take_append_of_le_length (by omega), List.take_of_length_le (by omega)]
    have hd : (P.be (f p) (P.size p) ++ P.rest f ps).drop (P.size p) = P.rest f ps := by rw [List.drop_append_of_le_length (by omega), List.drop_of_length_le (by omega), List.nil_append]
    obtain ⟨b0, b1⟩ := hb p (by simp)
    rw [P.readN, hc, ht, hd, wh_be _ _ b0 b1, ih _ hnd (fun q hq => hb q (by simp [hq]))]
    by_cases hj : j ∈ ps
    · rw [if_pos hj, if_pos (by simp [hj])]
    · rw [if_neg hj, P.set]
      by_cases e : j = p
      · subst e; simp
      · rw [if_neg e, if_neg (by simp [e, hj])]

theorem most_lt (p : Nat) (hp : p < 9) : P.mostOf p < 256 ^ P.size p := by
  match p, hp with
  | 0, _ => decide
  | 1, _ => decide
  | 2, _ => decide
  | 3, _ => decide
  | 4, _ => decide
  | 5, _ => decide
  | 6, _ => decide
  | 7, _ => decide
  | 8, _ => decide

theorem read_back {a : Ask} (h : P.askE a = 0) : P.readA (P.bytes a) = a := by
  obtain ⟨q1, q2, q3, q4, hx, hb⟩ := askE_zero h
  have l1 := be_len 1 a.kind
  have l2 := be_len 2 a.number
  obtain ⟨x0, hx0⟩ : ∃ x0, P.be a.kind 1 = [x0] := by
    match hL : P.be a.kind 1, l1 with
    | [x], _ => exact ⟨x, rfl⟩
  obtain ⟨y0, y1, hy⟩ : ∃ y0 y1, P.be a.number 2 = [y0, y1] := by
    match hL : P.be a.number 2, l2 with
    | [x, y], _ => exact ⟨x, y, rfl⟩
  have w1 := wh_be 1 a.kind (by omega) (by show a.kind < 256 ^ 1; omega)
  have w2 := wh_be 2 a.number (by omega) (by show a.number < 256 ^ 2; omega)
  have hB : P.bytes a = x0 :: y0 :: y1 :: P.rest (P.num a) (P.names a.kind) := by rw [P.bytes, hx0, hy]; rfl
  have hk : P.kindOf (P.bytes a) = a.kind := by rw [hB, ← w1, hx0]; rfl
  have hn : P.numberOf (P.bytes a) = a.number := by rw [hB, ← w2, hy]; rfl
  have hd : (P.bytes a).drop 3 = P.rest (P.num a) (P.names a.kind) := by rw [hB]; rfl
  have hr := readN_rest (P.num a) (P.names a.kind) (fun _ => 0) (names_nodup _) (fun p hp => ⟨(hb p hp).1, by have := (hb p hp).2; have := most_lt p (names_lt hp); omega⟩)
  have hv : ∀ j, j < 9 → P.readN (P.names a.kind) (P.rest (P.num a) (P.names a.kind)) (fun _ => 0) j = P.num a j := by
    intro j hj
    rw [hr]
    by_cases hm : j ∈ P.names a.kind
    · rw [if_pos hm]
    · rw [if_neg hm]
      unfold P.extra at hx
      rw [List.any_eq_false] at hx
      have := hx j (by simpa using hj)
      simp at this
      by_cases h0 : P.num a j = 0
      · exact h0.symm
      · exact absurd (this h0) hm
  rw [P.readA, hk, hn, hd, P.gath, hv 0 (by decide), hv 1 (by decide), hv 2 (by decide), hv 3 (by decide), hv 4 (by decide), hv 5 (by decide), hv 6 (by decide), hv 7 (by decide), hv 8 (by decide)]
  obtain ⟨a0, a1, a2, a3, a4, a5, a6, a7, a8, a9, a10⟩ := a
  cases a4 <;> rfl

theorem enc_back {a : Ask} (h : P.askE a = 0) : P.decE (P.bytes a) = 0 ∧ P.decA (P.bytes a) = a := by
  have hr := read_back h
  obtain ⟨q1, q2, _⟩ := askE_zero h
  have hk : P.kindOf (P.bytes a) = a.kind := by have := congrArg Ask.kind hr; exact this
  have e : P.decE (P.bytes a) = 0 := by rw [P.decE, if_pos ⟨by rw [hk]; simp [P.btw]; omega, by rw [hr]⟩, hr, h]
  exact ⟨e, by rw [P.decA, if_pos e, hr]⟩
theorem dec_back {l : List UInt8} (h : P.decE l = 0) : P.askE (P.decA l) = 0 ∧ P.encL (P.decA l) = l := by
  have hA : P.decA l = P.readA l := by rw [P.decA, if_pos h]
  rw [hA]
  unfold P.decE at h
  split at h
  · rename_i hc
    exact ⟨h, by rw [P.encL, if_pos h, hc.2]⟩
  · omega
theorem dec_err {l : List UInt8} (h : ¬ P.decE l = 0) : P.decA l = P.zeroA := by rw [P.decA, if_neg h]

end Go.Proofs.YtfiaeokdcbmedafDoor
