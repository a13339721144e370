/- What the program decodes is what the reference decodes. -/
import Derived.Test.YtfiaeokdcbmedafDoorCdK
namespace Go.Proofs.YtfiaeokdcbmedafDoor
open Go.RowKit
set_option linter.unusedSimpArgs false
set_option linter.unusedVariables false

theorem byte_of (b : UInt8) : P.byte (b.toNat : Int) = b := by
  have := b.toNat_lt
  unfold P.byte
  rw [show ((b.toNat : Int) % 256).toNat = b.toNat by omega]
  simp
theorem byte_add (x : Nat) (b : UInt8) : P.byte ((x * 256 + b.toNat : Nat) : Int) = b := by
  have := b.toNat_lt
  unfold P.byte
  rw [show (((x * 256 + b.toNat : Nat) : Int) % 256).toNat = b.toNat by omega]
  simp
theorem be_wh : ∀ (n : Nat) (l : List UInt8), l.length = n → P.be (P.wh l : Int) n = l := by
  intro n
  induction n with
  | zero => intro l h; rw [List.eq_nil_of_length_eq_zero h]; rfl
  | succ n ih =>
    intro l h
    obtain ⟨l', b, rfl⟩ : ∃ l' b, l = l' ++ [b] := ⟨l.dropLast, l.getLast (by intro e; simp [e] at h), (List.dropLast_concat_getLast _).symm⟩
    simp at h
    have hb : b.toNat < 256 := b.toNat_lt
    rw [wh_snoc, P.be, byte_add, show (((P.wh l' * 256 + b.toNat : Nat) : Int) / 256) = (P.wh l' : Int) by omega, ih l' h]

theorem readN_far {ps : List Nat} {j : Nat} (hj : j ∉ ps) : ∀ (l : List UInt8) (n : Nat → Int), P.readN ps l n j = n j := by
  induction ps with
  | nil => intro l n; rfl
  | cons p ps ih =>
    intro l n
    simp at hj
    rw [P.readN, ih hj.2, P.set, if_neg hj.1]
theorem parse_readN : ∀ (ps : List Nat) (l : List UInt8) (n m : Nat → Int), P.parse ps l n = some m → m = P.readN ps l n := by
  intro ps
  induction ps with
  | nil => intro l n m h; rw [P.parse] at h; split at h <;> simp at h; exact h.symm
  | cons p ps ih =>
    intro l n m h
    rw [P.parse] at h
    split at h
    · simp at h
    · split at h
      · simp at h
      · rw [P.readN]; exact ih _ _ _ h

/-- A part as it is written again. -/
def P.lv (n : Nat → Int) (p : Nat) : Int := if p = 6 then (if n 6 != 0 then 1 else 0) else n p
theorem num_gath (k num : Int) (n : Nat → Int) (p : Nat) (hp : p < 9) : P.num (P.gath k num n) p = P.lv n p := by
  match p, hp with
  | 0, _ => rfl
  | 1, _ => rfl
  | 2, _ => rfl
  | 3, _ => rfl
  | 4, _ => rfl
  | 5, _ => rfl
  | 6, _ => rfl
  | 7, _ => rfl
  | 8, _ => rfl
theorem rest_num (k num : Int) (n : Nat → Int) (ps : List Nat) (h : ∀ p ∈ ps, p < 9) : P.rest (P.num (P.gath k num n)) ps = P.rest (P.lv n) ps := by
  induction ps with
  | nil => rfl
  | cons p ps ih =>
    have := ih (fun q hq => h q (by simp [hq]))
    unfold P.rest at *
    rw [List.flatMap_cons, List.flatMap_cons, this, num_gath _ _ _ _ (h p (by simp))]

theorem lv_far {n : Nat → Int} {p : Nat} (h : p ≠ 6) : P.lv n p = n p := by rw [P.lv, if_neg h]
theorem part_back (p : Nat) (t : List UInt8) (m : Nat → Int) (ht : t.length = P.size p) (hm : m p = P.wh t) : P.be (P.lv m p) (P.size p) = t ↔ ¬ (p = 6 ∧ 1 < P.wh t) := by
  by_cases h : p = 6
  · subst h
    have hl : t.length = 1 := ht
    obtain ⟨b, rfl⟩ : ∃ b, t = [b] := by
      match t, hl with
      | [b], _ => exact ⟨b, rfl⟩
    have hw : P.wh [b] = b.toNat := by simp [P.wh]
    rw [hw] at hm ⊢
    have hbt := b.toNat_lt
    show P.be (P.lv m 6) 1 = [b] ↔ _
    rw [P.lv, if_pos rfl, hm]
    constructor
    · intro e
      simp
      by_cases h0 : b.toNat = 0
      · omega
      · rw [if_pos (by simpa using h0)] at e
        simp [P.be, P.byte] at e
        rw [← e]; decide
    · intro e
      simp at e
      rcases (show b.toNat = 0 ∨ b.toNat = 1 by omega) with h0 | h0
      · rw [h0, if_neg (by simp)]
        have : b = 0 := UInt8.toNat_inj.1 (by simpa using h0)
        subst this; rfl
      · rw [h0, if_pos (by simp)]
        have : b = 1 := UInt8.toNat_inj.1 (by simpa using h0)
        subst this; rfl
  · rw [lv_far h, hm, be_wh _ t ht]
    simp [h]

theorem rest_back : ∀ (ps : List Nat) (l : List UInt8) (n : Nat → Int), ps.Nodup → (P.rest (P.lv (P.readN ps l n)) ps = l ↔ (P.parse ps l n).isSome = true) := by
  intro ps
  induction ps with
  | nil =>
    intro l n _
    rw [P.parse]
    constructor
    · intro h
      have h' : ([] : List UInt8) = l := h
      rw [if_pos h'.symm]; rfl
    · intro h
      split at h
      · rename_i e; rw [e]; rfl
      · simp at h
  | cons p ps ih =>
    intro l n hnd
    obtain ⟨hp, hnd⟩ := List.nodup_cons.1 hnd
    rw [P.readN, P.parse]
    generalize hm : P.readN ps (l.drop (P.size p)) (P.set n p (P.wh (l.take (P.size p)))) = m
    have hmp : m p = P.wh (l.take (P.size p)) := by rw [← hm, readN_far hp, P.set, if_pos rfl]
    have hih := ih (l.drop (P.size p)) (P.set n p (P.wh (l.take (P.size p)))) hnd
    rw [hm] at hih
    have hc : P.rest (P.lv m) (p :: ps) = P.be (P.lv m p) (P.size p) ++ P.rest (P.lv m) ps := by unfold P.rest; rw [List.flatMap_cons]
    rw [hc]
    by_cases hlen : l.length < P.size p
    · rw [if_pos hlen]
      constructor
      · intro e
        have := congrArg List.length e
        rw [List.length_append, be_len] at this
        omega
      · intro h; simp at h
    · rw [if_neg hlen]
      have ht : (l.take (P.size p)).length = P.size p := by rw [List.length_take]; omega
      have hpb := part_back p (l.take (P.size p)) m ht hmp
      have hsplit : P.be (P.lv m p) (P.size p) ++ P.rest (P.lv m) ps = l ↔ P.be (P.lv m p) (P.size p) = l.take (P.size p) ∧ P.rest (P.lv m) ps = l.drop (P.size p) := by
        constructor
        · intro e
          have e' : P.be (P.lv m p) (P.size p) ++ P.rest (P.lv m) ps = l.take (P.size p) ++ l.drop (P.size p) := by rw [List.take_append_drop]; exact e
          exact List.append_inj e' (by rw [be_len, ht])
        · rintro ⟨e1, e2⟩
          rw [e1, e2, List.take_append_drop]
      rw [hsplit, hpb, hih]
      by_cases h6 : p = 6 ∧ 1 < P.wh (l.take (P.size p))
      · rw [if_pos h6]
        constructor
        · rintro ⟨h, _⟩; exact absurd h6 h
        · intro h; simp at h
      · rw [if_neg h6]; simp [h6]

theorem names_nodup (k : Int) : (P.names k).Nodup := by
  unfold P.names
  repeat' split
  all_goals decide

theorem bytes_back (l : List UInt8) : P.bytes (P.readA l) = l ↔ ¬ l.length < 3 ∧ (P.parse (P.names (P.kindOf l)) (l.drop 3) (fun _ => 0)).isSome = true := by
  have hr := rest_back (P.names (P.kindOf l)) (l.drop 3) (fun _ => 0) (names_nodup _)
  have hk : (P.readA l).kind = P.kindOf l := rfl
  have hn : (P.readA l).number = P.numberOf l := rfl
  have hrest : P.rest (P.num (P.readA l)) (P.names (P.kindOf l)) = P.rest (P.lv (P.readN (P.names (P.kindOf l)) (l.drop 3) (fun _ => 0))) (P.names (P.kindOf l)) := rest_num _ _ _ _ (fun p hp => names_lt hp)
  by_cases h3 : l.length < 3
  · constructor
    · intro e
      have := (bytes_le (P.readA l)).1
      rw [e] at this
      omega
    · intro h; exact absurd h3 h.1
  · have hl : l = l.take 1 ++ l.tail.take 2 ++ l.drop 3 := by
      match l, h3 with
      | [], h => simp at h
      | [_], h => simp at h
      | [_, _], h => simp at h
      | a :: b :: c :: r, _ => rfl
    have h1 : P.be (P.kindOf l) 1 = l.take 1 := be_wh 1 _ (by rw [List.length_take]; omega)
    have h2 : P.be (P.numberOf l) 2 = l.tail.take 2 := be_wh 2 _ (by rw [List.length_take, List.length_tail]; omega)
    rw [P.bytes, hk, hn, hrest, h1, h2, ← hr]
    constructor
    · intro e
      refine ⟨h3, ?_⟩
      have e' : l.take 1 ++ l.tail.take 2 ++ P.rest (P.lv (P.readN (P.names (P.kindOf l)) (l.drop 3) (fun _ => 0))) (P.names (P.kindOf l)) = l.take 1 ++ l.tail.take 2 ++ l.drop 3 := by rw [← hl]; exact e
      exact List.append_cancel_left e'
    · rintro ⟨_, e⟩
      rw [e, ← hl]

theorem dec_same (l : List UInt8) : P.decE l = P.askOfE l ∧ P.decA l = P.askOfA l := by
  by_cases hb : P.btw (P.kindOf l) 1 8 = true
  · cases hp : P.parse (P.names (P.kindOf l)) (l.drop 3) (fun _ => 0) with
    | none =>
      have h1 : ¬ P.bytes (P.readA l) = l := by rw [bytes_back, hp]; simp
      have h2 : P.parsed l = none := by
        rw [P.parsed]
        split
        · rfl
        · exact hp
      obtain ⟨e1, e2⟩ := dec_no (l := l) (fun h => h1 h.2)
      rw [e1, e2, P.askOfE, P.askOfA, h2]
      exact ⟨rfl, rfl⟩
    | some m =>
      by_cases h3 : l.length < 3
      · have h1 : ¬ P.bytes (P.readA l) = l := by rw [bytes_back]; simp [h3]
        have h2 : P.parsed l = none := by rw [P.parsed, if_pos (.inl h3)]
        obtain ⟨e1, e2⟩ := dec_no (l := l) (fun h => h1 h.2)
        rw [e1, e2, P.askOfE, P.askOfA, h2]
        exact ⟨rfl, rfl⟩
      · have h1 : P.bytes (P.readA l) = l := by rw [bytes_back, hp]; exact ⟨h3, rfl⟩
        have h2 : P.parsed l = some m := by rw [P.parsed, if_neg (by rw [hb]; simp; omega)]; exact hp
        have hm := parse_readN _ _ _ _ hp
        have hA : P.gath (P.kindOf l) (P.numberOf l) m = P.readA l := by rw [hm]; rfl
        have e1 : P.decE l = P.askE (P.readA l) := by rw [P.decE, if_pos ⟨hb, h1⟩]
        rw [P.askOfE, P.askOfA, P.decA, e1, h2]
        simp only [hA]
        exact ⟨trivial, trivial⟩
  · have hb' : P.btw (P.kindOf l) 1 8 = false := by simpa using hb
    have h2 : P.parsed l = none := by rw [P.parsed, if_pos (.inr hb')]
    obtain ⟨e1, e2⟩ := dec_no (l := l) (fun h => hb h.1)
    rw [e1, e2, P.askOfE, P.askOfA, h2]
    exact ⟨rfl, rfl⟩

end Go.Proofs.YtfiaeokdcbmedafDoor
