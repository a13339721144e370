/- Requests as bytes: the parts of a request, their bytes; the leaves of package code. -/
import Derived.Test.YtfiaeokdcbmedafDoorBaA
import Derived.Lib.SlBytesRow
import Derived.Deep.Heap
namespace Go.Proofs.YtfiaeokdcbmedafDoor
open Go.RowKit
set_option linter.unusedSimpArgs false
set_option linter.unusedVariables false

/-- A request. -/
structure Ask where
  number : Int
  kind : Int
  id : Int
  guests : Int
  level : Bool
  cabin : Int
  category : Int
  f : Int
  t : Int
  til : Int
  amount : Int
deriving DecidableEq

abbrev V.ask (a : Ask) : Value := .agg #[.int .i64 a.number, .int .i64 a.kind, .int .i64 a.id, .int .i64 a.guests, .bool a.level, .int .i64 a.cabin, .int .i64 a.category, .int .i64 a.f, .int .i64 a.t, .int .i64 a.til, .int .i64 a.amount]
abbrev V.nums (n : Nat → Int) : Value := .agg #[.int .i64 (n 0), .int .i64 (n 1), .int .i64 (n 2), .int .i64 (n 3), .int .i64 (n 4), .int .i64 (n 5), .int .i64 (n 6), .int .i64 (n 7), .int .i64 (n 8)]

/-- The number that a part of a request is. -/
def P.num (a : Ask) : Nat → Int
  | 0 => a.id
  | 1 => a.guests
  | 2 => a.cabin
  | 3 => a.category
  | 4 => a.f
  | 5 => a.t
  | 6 => if a.level then 1 else 0
  | 7 => a.til
  | 8 => a.amount
  | _ => 0
/-- The parts that a kind names, in order. -/
def P.names (k : Int) : List Nat := if k = 1 then [0, 1, 2, 4, 5, 6, 7] else if k = 2 then [0, 1, 3, 6, 7] else if k = 3 ∨ k = 5 then [0] else if k = 4 then [0, 8] else if k = 6 then [0, 2] else if k = 7 then [7] else []
/-- How many bytes a part takes, and the most that it may be. -/
def P.size : Nat → Nat
  | 0 => 3
  | 7 => 2
  | 8 => 4
  | _ => 1
def P.mostOf : Nat → Int
  | 0 => 999999
  | 6 => 1
  | 7 => 65535
  | 8 => 100000000
  | _ => 255
/-- The last byte of a number; so many of its bytes, the greatest first. -/
def P.byte (n : Int) : UInt8 := UInt8.ofNat (n % 256).toNat
def P.be (n : Int) : Nat → List UInt8
  | 0 => []
  | m + 1 => P.be (n / 256) m ++ [P.byte n]

theorem be_len (m : Nat) : ∀ n, (P.be n m).length = m := by
  induction m with
  | zero => intro n; rfl
  | succ m ih => intro n; simp [P.be, ih]
theorem be_get (m : Nat) : ∀ (n : Int) (i : Nat), i < m → (P.be n m)[i]? = some (P.byte (n / (256 : Int) ^ (m - 1 - i))) := by
  induction m with
  | zero => intro n i h; omega
  | succ m ih =>
    intro n i h
    rw [P.be]
    by_cases hi : i < m
    · rw [List.getElem?_append_left (by rw [be_len]; exact hi), ih _ _ hi, Int.ediv_ediv_of_nonneg (by decide), show m + 1 - 1 - i = (m - 1 - i) + 1 by omega, Int.pow_succ, Int.mul_comm]
    · obtain rfl : i = m := by omega
      rw [List.getElem?_append_right (by rw [be_len]; exact Nat.le_refl _), be_len, Nat.sub_self]
      simp [show i + 1 - 1 - i = 0 by omega]

theorem names_lt {k : Int} {p : Nat} (h : p ∈ P.names k) : p < 9 := by
  unfold P.names at h
  repeat' split at h
  all_goals (simp at h <;> omega)
theorem names_len (k : Int) : (P.names k).length ≤ 7 := by
  unfold P.names
  repeat' split
  all_goals simp

/-- The table of the parts lies in the first package-level variable. -/
structure PartsAt (w : World) : Prop where
  size : ∀ j, j < 9 → w.cell? ⟨0, j * 2, none⟩ = some (.int .i64 (P.size j))
  most : ∀ j, j < 9 → w.cell? ⟨0, j * 2 + 1, none⟩ = some (.int .i64 (P.mostOf j))
theorem PartsAt.below {w w' : World} (h : PartsAt w) (hb : Below w.heap.size w w') : PartsAt w' := ⟨fun j hj => cellIn hb (h.size j hj), fun j hj => cellIn hb (h.most j hj)⟩

/-- Lists of numbers that are not below 0. -/
abbrev CNat (n : Nat) : List Value := [.int .i64 n]
abbrev NatsAt (w : World) (ao : Option Addr) (cap : Nat) (l : List Nat) : Prop := SlAt (RC CNat) 1 w ao cap l
theorem NatsAt.get {w w' : World} {ao : Option Addr} {cap : Nat} {l : List Nat} (h : NatsAt w ao cap l) (hb : Below w.heap.size w w') (k : Nat) (hk : k < l.length) :
    ∃ b off x, ao = some ⟨b, off, none⟩ ∧ b < w.heap.size ∧ l.drop k = x :: l.drop (k + 1) ∧ l[k] = x ∧ w'.cell? ⟨b, off + k, none⟩ = some (.int .i64 (x : Int)) := by
  obtain ⟨b, off, x, cs, h1, h2, h3, h4, h5, h6⟩ := SlAt.get (RC.mono CNat) h hb k hk
  have h4' : cs = CNat x := h4
  subst h4'
  have e : l[k] = x := by
    have := List.drop_eq_getElem_cons hk
    rw [h3] at this
    simp only [List.cons.injEq] at this
    exact this.1.symm
  exact ⟨b, off, x, h1, h2, h3, e, by simpa using h6 0 _ rfl⟩

set_option maxHeartbeats 400000 in
theorem isKind_any (n : Int) (w : World) : Calls Tryd.prog 14 #[.int .i64 n] w fun e w' => e = .returned (.bool (P.btw n 1 8)) ∧ w = w' := by
  by_cases h1 : 1 ≤ n <;> by_cases h2 : n ≤ 8
  all_goals
    go_enter Tryd.func14, Tryd.ntmps14
    go_wp2
    go_ret
    simp [P.btw, h1, h2]

set_option maxHeartbeats 1000000 in
theorem spread_any (a : Ask) (w : World) : Calls Tryd.prog 20 #[V.ask a] w fun e w' => e = .returned (V.nums (P.num a)) ∧ Below w.heap.size w w' := by
  obtain ⟨a0, a1, a2, a3, a4, a5, a6, a7, a8, a9, a10⟩ := a
  cases a4
  · go_enter Tryd.func20, Tryd.ntmps20
    go_wp2
    refine bodyPost_ret (v := V.nums (P.num ⟨a0, a1, a2, a3, false, a5, a6, a7, a8, a9, a10⟩)) (by simp [results, Tryd.results20, go_sem, P.num]) rfl ?_
    exact ⟨rfl, by go_grown⟩
  · go_enter Tryd.func20, Tryd.ntmps20
    go_wp2
    refine bodyPost_ret (v := V.nums (P.num ⟨a0, a1, a2, a3, true, a5, a6, a7, a8, a9, a10⟩)) (by simp [results, Tryd.results20, go_sem, P.num]) rfl ?_
    exact ⟨rfl, by go_grown⟩

set_option maxHeartbeats 1000000 in
theorem gather_any (k num : Int) (n : Nat → Int) (w : World) : Calls Tryd.prog 28 #[.int .i64 k, .int .i64 num, V.nums n] w fun e w' =>
    e = .returned (V.ask ⟨num, k, n 0, n 1, n 6 != 0, n 2, n 3, n 4, n 5, n 7, n 8⟩) ∧ Below w.heap.size w w' := by
  go_enter Tryd.func28, Tryd.ntmps28
  go_wp2
  refine bodyPost_ret (v := V.ask ⟨num, k, n 0, n 1, n 6 != 0, n 2, n 3, n 4, n 5, n 7, n 8⟩) (by simp [results, Tryd.results28, go_sem]) rfl ?_
  exact ⟨rfl, by go_grown⟩

theorem flat_nats (l : List Nat) : l.map (fun n : Nat => Value.int .i64 (n : Int)) = (l.map CNat).flatten := by
  induction l with
  | nil => rfl
  | cons x l ih => rw [List.map_cons, ih, List.map_cons, List.flatten_cons]; rfl
/-- A list of numbers in a block of its own. -/
def NatsB (w : World) (ao : Option Addr) (l : List Nat) : Prop := (ao = none ∧ l = []) ∨ ∃ g, ao = some ⟨g, 0, none⟩ ∧ w.heap[g]? = some (.cells (l.map (fun n : Nat => Value.int .i64 (n : Int))).toArray 3 (0, 0))
theorem NatsB.at {w : World} {ao : Option Addr} {l : List Nat} (h : NatsB w ao l) (hm : l.length ≤ maxLen) : NatsAt w ao l.length l := by
  rcases h with ⟨rfl, rfl⟩ | ⟨g, rfl, hg⟩
  · exact SlAt.nilOf w
  · refine SlAt.ofBlock (l.map CNat) hg (by rw [← flat_nats]) (by simp) (fun i hi => ⟨CNat l[i], by simp [hi], rfl⟩) (fun c hc => ?_) hm
    obtain ⟨x, _, rfl⟩ := List.mem_map.1 hc
    rfl
theorem NatsB.below {w w' : World} {ao : Option Addr} {l : List Nat} (h : NatsB w ao l) (hb : Below w.heap.size w w') : NatsB w' ao l := by
  rcases h with h | ⟨g, rfl, hg⟩
  · exact .inl h
  · exact .inr ⟨g, rfl, by rw [hb.block g (Array.getElem?_eq_some_iff.1 hg).1]; exact hg⟩

set_option maxHeartbeats 2000000 in
theorem named_any (k : Int) (w : World) : Calls Tryd.prog 21 #[.int .i64 k] w fun e w' => ∃ ao, e = .returned (.slice ao (P.names k).length (P.names k).length) ∧ NatsB w' ao (P.names k) ∧ Below w.heap.size w w' ∧ ∀ g, ao = some ⟨g, 0, none⟩ → w.heap.size ≤ g := by
  by_cases h1 : k = 1
  · subst h1
    go_enter Tryd.func21, Tryd.ntmps21
    go_wp2
    go_ret
    exact ⟨_, rfl, .inr ⟨_, rfl, heap_alloc_new w _⟩, by go_grown, fun g h => by cases h; exact Nat.le_refl _⟩
  have k1 : (k == 1) = false := by simpa using h1
  by_cases h2 : k = 2
  · subst h2
    go_enter Tryd.func21, Tryd.ntmps21
    go_wp2
    go_ret
    exact ⟨_, rfl, .inr ⟨_, rfl, heap_alloc_new w _⟩, by go_grown, fun g h => by cases h; exact Nat.le_refl _⟩
  have k2 : (k == 2) = false := by simpa using h2
  by_cases h3 : k = 3
  · subst h3
    go_enter Tryd.func21, Tryd.ntmps21
    go_wp2
    go_ret
    exact ⟨_, rfl, .inr ⟨_, rfl, heap_alloc_new w _⟩, by go_grown, fun g h => by cases h; exact Nat.le_refl _⟩
  have k3 : (k == 3) = false := by simpa using h3
  by_cases h5 : k = 5
  · subst h5
    go_enter Tryd.func21, Tryd.ntmps21
    go_wp2
    go_ret
    exact ⟨_, rfl, .inr ⟨_, rfl, heap_alloc_new w _⟩, by go_grown, fun g h => by cases h; exact Nat.le_refl _⟩
  have k5 : (k == 5) = false := by simpa using h5
  by_cases h4 : k = 4
  · subst h4
    go_enter Tryd.func21, Tryd.ntmps21
    go_wp2
    go_ret
    exact ⟨_, rfl, .inr ⟨_, rfl, heap_alloc_new w _⟩, by go_grown, fun g h => by cases h; exact Nat.le_refl _⟩
  have k4 : (k == 4) = false := by simpa using h4
  by_cases h6 : k = 6
  · subst h6
    go_enter Tryd.func21, Tryd.ntmps21
    go_wp2
    go_ret
    exact ⟨_, rfl, .inr ⟨_, rfl, heap_alloc_new w _⟩, by go_grown, fun g h => by cases h; exact Nat.le_refl _⟩
  have k6 : (k == 6) = false := by simpa using h6
  by_cases h7 : k = 7
  · subst h7
    go_enter Tryd.func21, Tryd.ntmps21
    go_wp2
    go_ret
    exact ⟨_, rfl, .inr ⟨_, rfl, heap_alloc_new w _⟩, by go_grown, fun g h => by cases h; exact Nat.le_refl _⟩
  have k7 : (k == 7) = false := by simpa using h7
  have e : P.names k = [] := by simp [P.names, h1, h2, h3, h4, h5, h6, h7]
  rw [e]
  clear e h1 h2 h3 h4 h5 h6 h7
  go_enter Tryd.func21, Tryd.ntmps21
  go_wp2
  go_ret
  exact ⟨_, rfl, .inl ⟨rfl, rfl⟩, Below.refl _ _, fun g h => by cases h⟩

theorem NatsB.set {w : World} {ao : Option Addr} {l : List Nat} {b o : Nat} {v : Value} (h : NatsB w ao l) (hb : ∀ g, ao = some ⟨g, 0, none⟩ → g ≠ b) : NatsB (w.setCell ⟨b, o, none⟩ v) ao l := by
  rcases h with h | ⟨g, rfl, hg⟩
  · exact .inl h
  · exact .inr ⟨g, rfl, by rw [Go.Deep.blk_setCell_other _ _ _ _ (hb g rfl)]; exact hg⟩

end Go.Proofs.YtfiaeokdcbmedafDoor
