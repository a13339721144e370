import Derived.Test.YtlamhfbdeinkkaeGreatBaAt
import Derived.Deep.LoopGhost
import Derived.WalkSmall
set_option maxRecDepth 10000
/- Walks of span.Check, CheckSpan, meet: each call answers what the plain function beside it computes. -/
namespace Go.Proofs.YtlamhfbdeinkkaeGreat.Sp
open Go.RowKit
set_option linter.unusedSimpArgs false
set_option linter.unusedVariables false

set_option maxHeartbeats 400000 in
theorem check_any (f t n : Int) (w : World) :
    Calls Tryz.prog 58 #[.agg #[.int .i64 f, .int .i64 t], .int .i64 n] w fun e w' => e = .returned (.int .i64 (P.chk f t n)) ∧ Below w.heap.size w w' := by
  cases hs : P.sails n <;> by_cases h1 : f < 0 <;> by_cases h2 : n < t <;> by_cases h3 : t ≤ f
  all_goals
    go_enter Tryz.func58, Tryz.ntmps58
    go_wp2_with (go_at_call 114; refine (sails_any _ _).mono ?_; rintro e w' ⟨rfl, rfl⟩; rw [hs])
    go_ret
    refine ⟨by simp [P.chk, hs, h1, h2, h3] <;> (repeat' split) <;> first | rfl | omega, ?_⟩
    go_grown

def P.meet (a b c d : Int) : Bool := decide (a < d) && decide (c < b)

set_option maxHeartbeats 400000 in
theorem meet_any (a b c d : Int) (w : World) :
    Calls Tryz.prog 198 #[.agg #[.int .i64 a, .int .i64 b], .agg #[.int .i64 c, .int .i64 d]] w fun e w' => e = .returned (.bool (P.meet a b c d)) ∧ Below w.heap.size w w' := by
  by_cases h1 : a < d <;> by_cases h2 : c < b
  all_goals
    go_enter Tryz.func198, Tryz.ntmps198
    go_wp2
    go_ret
    refine ⟨by simp [P.meet, h1, h2], ?_⟩
    go_grown

set_option maxHeartbeats 400000 in
theorem checkSpan_any (f t n : Int) (w : World) :
    Calls Tryz.prog 127 #[.agg #[.int .i64 f, .int .i64 t], .int .i64 n] w fun e w' => e = .returned (.int .i64 (P.chk f t n)) ∧ Below w.heap.size w w' := by
  cases hs : P.sails n <;> by_cases h1 : f < 0 <;> by_cases h2 : n < t <;> by_cases h3 : t ≤ f
  all_goals
    go_enter Tryz.func127, Tryz.ntmps127
    go_wp2_with (go_at_call 74; refine (between17_any _ _).mono ?_; rintro e w' ⟨rfl, rfl⟩; rw [hs])
    go_ret
    refine ⟨by simp [P.chk, hs, h1, h2, h3] <;> (repeat' split) <;> first | rfl | omega, ?_⟩
    go_grown

end Go.Proofs.YtlamhfbdeinkkaeGreat.Sp
/- Lists of spans in memory; walks of checkCalendar and CheckCalendar. -/
namespace Go.Proofs.YtlamhfbdeinkkaeGreat.Sp
open Go.RowKit
set_option linter.unusedSimpArgs false
set_option linter.unusedVariables false

/-- The slice (address ao, capacity cap, as many elements as l) holds the spans l. -/
structure SpAt (w : World) (ao : Option Addr) (cap : Nat) (l : List (Int × Int)) : Prop where
  le : l.length ≤ cap
  max : cap ≤ maxLen
  nil : ao = none → cap = 0
  cells : 0 < l.length → ∃ b off, ao = some ⟨b, off, none⟩ ∧ b < w.heap.size ∧ ∀ i (h : i < l.length), w.cell? ⟨b, off + i * 2, none⟩ = some (.int .i64 (l[i]).1) ∧ w.cell? ⟨b, off + i * 2 + 1, none⟩ = some (.int .i64 (l[i]).2)

theorem SpAt.get {w w' : World} {ao : Option Addr} {cap : Nat} {l : List (Int × Int)} (h : SpAt w ao cap l) (hb : Below w.heap.size w w') (k : Nat) (hk : k < l.length) :
    ∃ b off f t, ao = some ⟨b, off, none⟩ ∧ b < w.heap.size ∧ l.drop k = (f, t) :: l.drop (k + 1) ∧ w'.cell? ⟨b, off + k * 2, none⟩ = some (.int .i64 f) ∧ w'.cell? ⟨b, off + k * 2 + 1, none⟩ = some (.int .i64 t) := by
  obtain ⟨b, off, rfl, hlt, hc⟩ := h.cells (by omega)
  refine ⟨b, off, l[k].1, l[k].2, rfl, hlt, List.drop_eq_getElem_cons hk, ?_, ?_⟩
  · rw [hb.cell (p := ⟨b, off + k * 2, none⟩) hlt]; exact (hc k hk).1
  · rw [hb.cell (p := ⟨b, off + k * 2 + 1, none⟩) hlt]; exact (hc k hk).2

theorem SpAt.below {w w' : World} {ao : Option Addr} {cap : Nat} {l : List (Int × Int)} (h : SpAt w ao cap l) (hb : Below w.heap.size w w') : SpAt w' ao cap l := by
  refine ⟨h.le, h.max, h.nil, fun h0 => ?_⟩
  obtain ⟨b, off, rfl, hlt, hc⟩ := h.cells h0
  refine ⟨b, off, rfl, Nat.lt_of_lt_of_le hlt hb.size, fun i hi => ?_⟩
  rw [hb.cell (p := ⟨b, off + i * 2, none⟩) hlt, hb.cell (p := ⟨b, off + i * 2 + 1, none⟩) hlt]
  exact hc i hi

def P.cal (n : Int) : Int → List (Int × Int) → Int
  | _, [] => 0
  | e, s :: l => if P.chk s.1 s.2 n = 0 then (if s.1 < e then 4 else P.cal n s.2 l) else P.chk s.1 s.2 n
def P.calendar (l : List (Int × Int)) (n : Int) : Int := if P.sails n = true then P.cal n 0 l else 3

theorem cal_bad {l : List (Int × Int)} {n e0 f t : Int} {k : Nat} (hs : P.sails n = true) (hP : P.cal n e0 (l.drop k) = P.cal n 0 l) (hD : l.drop k = (f, t) :: l.drop (k + 1)) (h : (P.chk f t n != 0) = true) :
    P.calendar l n = P.chk f t n := by
  rw [P.calendar, if_pos hs, ← hP, hD, P.cal, if_neg (by simpa using h)]
theorem cal_low {l : List (Int × Int)} {n e0 f t : Int} {k : Nat} (hs : P.sails n = true) (hP : P.cal n e0 (l.drop k) = P.cal n 0 l) (hD : l.drop k = (f, t) :: l.drop (k + 1)) (h : (P.chk f t n != 0) = false) (h2 : f < e0) :
    P.calendar l n = 4 := by
  rw [P.calendar, if_pos hs, ← hP, hD, P.cal, if_pos (by simpa using h), if_pos h2]
theorem cal_on {l : List (Int × Int)} {n e0 f t : Int} {k : Nat} (hP : P.cal n e0 (l.drop k) = P.cal n 0 l) (hD : l.drop k = (f, t) :: l.drop (k + 1)) (h : (P.chk f t n != 0) = false) (h2 : e0 ≤ f) :
    P.cal n t (l.drop (k + 1)) = P.cal n 0 l := by
  rw [← hP, hD, P.cal, if_pos (by simpa using h), if_neg (by simpa using h2)]

set_option maxHeartbeats 1000000 in
theorem checkCalendar_any (ao : Option Addr) (cap : Nat) (l : List (Int × Int)) (n : Int) (w : World) (hl : SpAt w ao cap l) :
    Calls Tryz.prog 155 #[.slice ao l.length cap, .int .i64 n] w fun e w' => e = .returned (.int .i64 (P.calendar l n)) ∧ Below w.heap.size w w' := by
  have hle := hl.le
  have hmx := hl.max
  unfold maxLen at hmx
  cases hs : P.sails n
  · go_enter Tryz.func155, Tryz.ntmps155
    go_wp2_with (go_at_call 114; refine (sails_any _ _).mono ?_; rintro e w' ⟨rfl, rfl⟩; rw [hs])
    go_ret
    exact ⟨by simp [P.calendar, hs], Below.refl _ _⟩
  · go_enter Tryz.func155, Tryz.ntmps155
    go_wp2_with (go_at_call 114; refine (sails_any _ _).mono ?_; rintro e w' ⟨rfl, rfl⟩; rw [hs])
    go_loopg [5, 14] l.length (fun g en i wr => ∃ (k : Nat) (e : Int), k ≤ l.length ∧ g = l.length - k ∧ i = .int .i64 k ∧ en = .int .i64 e ∧ P.cal n e (l.drop k) = P.cal n 0 l ∧ Below w.heap.size w wr)
    case atStart => exact ⟨0, 0, Nat.zero_le _, rfl, rfl, rfl, rfl, Below.refl _ _⟩
    case round =>
      obtain ⟨k, e0, hk, rfl, rfl, rfl, hP, hB⟩ := hrel
      have hBs := hB.size
      have HP : Aside (P.cal n e0 (l.drop k) = P.cal n 0 l) := hP
      clear hP
      by_cases hlt : k < l.length
      · obtain ⟨b, off, f, t, rfl, hbw, hd, hc0, hc1⟩ := hl.get hB k hlt
        have HD : Aside (l.drop k = (f, t) :: l.drop (k + 1)) := hd
        clear hd
        go_wp2_with (go_at_call 58; refine (check_any _ _ _ _).mono ?_; rintro e w1 ⟨rfl, hb1⟩; obtain ⟨hcc, hff⟩ := bcell hb1)
        · go_ret
          exact ⟨ret_int (cal_bad hs HP.out HD.out ‹_›).symm, bvia (by go_grown) hb1⟩
        · go_ret
          exact ⟨ret_int (cal_low hs HP.out HD.out ‹_› ‹_›).symm, bvia (by go_grown) hb1⟩
        · go_roundg (l.length - (k + 1))
          case measure => omega
          case rel => exact ⟨k + 1, t, by omega, rfl, by go_num, rfl, cal_on HP.out HD.out ‹_› ‹_›, bvia (by go_grown) hb1⟩
      · have : k = l.length := by omega
        subst this
        go_wp2
        go_ret
        have hP := HP.out
        refine ⟨?_, hB⟩
        rw [P.calendar, if_pos hs, ← hP]
        simp [P.cal]

end Go.Proofs.YtlamhfbdeinkkaeGreat.Sp
/- Walks of CheckCalendar, SameSpans, DoMeet. -/
namespace Go.Proofs.YtlamhfbdeinkkaeGreat.Sp
open Go.RowKit
set_option linter.unusedSimpArgs false
set_option linter.unusedVariables false

theorem chk_zero {f t n : Int} (h : P.chk f t n = 0) : 0 ≤ f ∧ f < t ∧ t ≤ n ∧ n ≤ 7 ∧ 1 ≤ n ∧ P.sails n = true := by
  unfold P.chk at h
  split at h
  · omega
  · split at h
    · omega
    · rename_i h1 h2
      have hs : P.sails n = true := by cases hh : P.sails n <;> simp_all
      have hs2 := hs
      simp [P.sails] at hs2
      exact ⟨by omega, by omega, by omega, hs2.2, hs2.1, hs⟩

theorem drop_eq {a b : List (Int × Int)} {s t : Int × Int} {k : Nat} (ha : a.drop k = s :: a.drop (k + 1)) (hb : b.drop k = t :: b.drop (k + 1)) : a.drop k = b.drop k ↔ s = t ∧ a.drop (k + 1) = b.drop (k + 1) := by
  rw [ha, hb, List.cons.injEq]

theorem meet_yes {a b c d : Int} {k : Nat} (hx : P.btw k a (b - 1) = true) (hy : P.btw k c (d - 1) = true) : true = P.meet a b c d := by
  simp [P.btw, P.meet] at *
  omega
theorem meet_no {a b c d : Int} (h1 : 0 ≤ a) (h2 : a < b) (h3 : b ≤ 7) (h4 : 0 ≤ c) (h5 : c < d) (h6 : d ≤ 7) (h : ∀ j : Nat, j < 7 → ¬ (a ≤ j ∧ (j : Int) < b ∧ c ≤ j ∧ (j : Int) < d)) : P.meet a b c d = false := by
  have g1 := h a.toNat
  have g2 := h c.toNat
  cases hm : P.meet a b c d
  · rfl
  · simp [P.meet] at hm
    omega
theorem legs_on {a b c d : Int} {k : Nat} (h : ∀ j : Nat, j < k → ¬ (a ≤ j ∧ (j : Int) < b ∧ c ≤ j ∧ (j : Int) < d)) (hk : P.btw k a (b - 1) = false ∨ P.btw k c (d - 1) = false) : ∀ j : Nat, j < k + 1 → ¬ (a ≤ j ∧ (j : Int) < b ∧ c ≤ j ∧ (j : Int) < d) := by
  intro j hj
  by_cases e : j < k
  · exact h j e
  · obtain rfl : j = k := by omega
    simp [P.btw] at hk
    omega

set_option maxHeartbeats 1000000 in
theorem doMeet_any (a b c d : Int) (w : World) (h1 : 0 ≤ a) (h2 : a < b) (h3 : b ≤ 7) (h4 : 0 ≤ c) (h5 : c < d) (h6 : d ≤ 7) :
    Calls Tryz.prog 192 #[.agg #[.int .i64 a, .int .i64 b], .agg #[.int .i64 c, .int .i64 d]] w fun e w' => e = .returned (.bool (P.meet a b c d)) ∧ Below w.heap.size w w' := by
  go_enter Tryz.func192, Tryz.ntmps192
  go_wp2
  go_loopg [5] 7 (fun g i wr => ∃ (k : Nat), k ≤ 7 ∧ g = 7 - k ∧ i = .int .i64 k ∧ (∀ j : Nat, j < k → ¬ (a ≤ j ∧ (j : Int) < b ∧ c ≤ j ∧ (j : Int) < d)) ∧ wr = (w.alloc (.cells #[.int .i64 a, .int .i64 b] 34)).alloc (.cells #[.int .i64 c, .int .i64 d] 34))
  case atStart => exact ⟨0, Nat.zero_le _, rfl, rfl, fun j h => by omega, rfl⟩
  case round =>
    obtain ⟨k, hk, rfl, rfl, hP, rfl⟩ := hrel
    have HP : Aside (∀ j : Nat, j < k → ¬ (a ≤ j ∧ (j : Int) < b ∧ c ≤ j ∧ (j : Int) < d)) := hP
    clear hP
    by_cases hlt : k < 7
    · cases hx : P.btw k a (b - 1) <;> cases hy : P.btw k c (d - 1)
      all_goals
        go_wp2_with (go_at_call 74; refine (between_any _ _ _ _).mono ?_; rintro e w' ⟨rfl, rfl⟩; first | rw [hx] | rw [hy])
        first
        | (go_ret
           exact ⟨ret_bool (meet_yes hx hy), by go_grown⟩)
        | (go_roundg (7 - (k + 1))
           case measure => omega
           case rel => exact ⟨k + 1, by omega, rfl, by go_num, legs_on HP.out (by first | exact .inl hx | exact .inr hy), rfl⟩)
    · obtain rfl : k = 7 := by omega
      go_wp2
      go_ret
      exact ⟨ret_bool (meet_no h1 h2 h3 h4 h5 h6 HP.out).symm, by go_grown⟩

end Go.Proofs.YtlamhfbdeinkkaeGreat.Sp
/- Lists of spans that a call makes itself; walks of addGap and Free. -/
namespace Go.Proofs.YtlamhfbdeinkkaeGreat.Sp
open Go.RowKit
set_option linter.unusedSimpArgs false
set_option linter.unusedVariables false

/-- The cells of a list of spans. -/
def cellsOf (l : List (Int × Int)) : List Value := l.flatMap fun s => [.int .i64 s.1, .int .i64 s.2]

theorem cellsOf_length (l : List (Int × Int)) : (cellsOf l).length = l.length * 2 := by
  induction l with
  | nil => rfl
  | cons s l ih => simp [cellsOf] at ih ⊢; omega
theorem cellsOf_append (a b : List (Int × Int)) : cellsOf (a ++ b) = cellsOf a ++ cellsOf b := by simp [cellsOf]
theorem cellsOf_get (l : List (Int × Int)) (i : Nat) (h : i < l.length) : (cellsOf l)[i * 2]? = some (.int .i64 l[i].1) ∧ (cellsOf l)[i * 2 + 1]? = some (.int .i64 l[i].2) := by
  induction l generalizing i with
  | nil => simp at h
  | cons s l ih =>
    cases i with
    | zero => simp [cellsOf]
    | succ i =>
      have := ih i (by simpa using h)
      simp only [cellsOf, List.flatMap_cons] at this ⊢
      rw [show (i + 1) * 2 = i * 2 + 1 + 1 by omega]
      simpa using this
theorem cellsOf_one (l : List (Int × Int)) : ∀ u ∈ cellsOf l, u.oneCell' = true := by
  intro u hu
  simp [cellsOf] at hu
  obtain ⟨a, b, _, rfl | rfl⟩ := hu <;> rfl

/-- The value v is a slice of the call's own (blocks from base on) that holds the spans l. -/
abbrev Own (w : World) (base : Nat) (v : Value) (l : List (Int × Int)) : Prop := w.ownsRow base 34 2 v l.length (cellsOf l)

theorem Own.at {w : World} {base : Nat} {v : Value} {l : List (Int × Int)} (h : Own w base v l) : ∃ ao cap, v = .slice ao l.length cap ∧ SpAt w ao cap l := by
  rcases h.2 with ⟨rfl, h0⟩ | ⟨g, cap, cur, rfl, hb, hg, hn, hm, hs, ht⟩
  · refine ⟨none, 0, by rw [h0], by omega, by simp [maxLen], fun _ => rfl, by omega⟩
  · refine ⟨some ⟨g, 0, none⟩, cap, rfl, hn, hm, (fun h => by cases h), fun h0 => ⟨g, 0, rfl, ?_, fun i hi => ?_⟩⟩
    · rcases Nat.lt_or_ge g w.heap.size with hlt | hge
      · exact hlt
      · rw [Array.getElem?_eq_none hge] at hg; cases hg
    · obtain ⟨c0, c1⟩ := cellsOf_get l i hi
      have k0 := h.cellAt (i * 2) (by omega)
      have k1 := h.cellAt (i * 2 + 1) (by omega)
      rw [c0] at k0
      rw [c1] at k1
      simpa using ⟨k0, k1⟩

theorem Tryz.infoSpan : (Tryz.prog.info? 34).map (fun i => (i.zero, i.size, i.bytes)) = some (some (.agg #[.int .i64 0, .int .i64 0]), 2, 16) := by kernel_rfl

def P.gap (l : List (Int × Int)) (a b : Int) : List (Int × Int) := if a = b then l else l ++ [(a, b)]

theorem grown_alloc {w w' : World} {o : Obj} {row : Option Nat} (h : (w.alloc o).grownBy w' row) : w.grownBy w' row :=
  ⟨h.os, h.tape, h.output, Nat.le_trans (by simp) h.size, fun k hk hr => (h.block k (by simp; omega) hr).trans (Below.heap_alloc w o k hk)⟩

theorem news_two {w : World} (a b : Int) : ∀ j u, ([.int .i64 a, .int .i64 b] : List Value)[j]? = some u → (w.alloc (.cells #[.int .i64 a, .int .i64 b] 34)).cell? ((⟨w.heap.size, 0, none⟩ : Addr).add j) = some u := by
  intro j u hu
  match j, hu with
  | 0, hu => simp at hu; subst hu; simp [Addr.add]
  | 1, hu => simp at hu; subst hu; simp [Addr.add]

def P.fr (n : Int) : List (Int × Int) → Int → List (Int × Int) → List (Int × Int)
  | acc, e, [] => P.gap acc e n
  | acc, e, s :: l => P.fr n (P.gap acc e s.1) s.2 l
def P.free (l : List (Int × Int)) (n : Int) : List (Int × Int) := if P.calendar l n = 0 then P.fr n [] 0 l else []

theorem cal_len {n : Int} {l : List (Int × Int)} {e : Int} (h0 : 0 ≤ e) (h7 : e ≤ 7) (h : P.cal n e l = 0) : e + l.length ≤ 7 := by
  induction l generalizing e with
  | nil => simpa using h7
  | cons s l ih =>
    rw [P.cal] at h
    split at h
    · rename_i hc
      have hz := chk_zero hc
      split at h
      · omega
      · have := ih (by omega) (by omega) h
        simp only [List.length_cons]
        omega
    · contradiction
theorem calendar_len {n : Int} {l : List (Int × Int)} (h : P.calendar l n = 0) : l.length ≤ 7 ∧ P.cal n 0 l = 0 ∧ P.sails n = true := by
  unfold P.calendar at h
  split at h
  · rename_i hs
    have := cal_len (by omega) (by omega) h
    exact ⟨by omega, h, hs⟩
  · omega

end Go.Proofs.YtlamhfbdeinkkaeGreat.Sp
/- Walks of Meets, checkBoth, first and the function literals that it is handed. -/
namespace Go.Proofs.YtlamhfbdeinkkaeGreat.Sp
open Go.RowKit
set_option linter.unusedSimpArgs false
set_option linter.unusedVariables false

def P.both (l : List (Int × Int)) (n f t : Int) : Int := if P.calendar l n = 0 then P.chk f t n else P.calendar l n

set_option maxHeartbeats 1000000 in
theorem checkBoth_any (ao : Option Addr) (cap : Nat) (l : List (Int × Int)) (n f t : Int) (w : World) (hl : SpAt w ao cap l) :
    Calls Tryz.prog 195 #[.slice ao l.length cap, .int .i64 n, .agg #[.int .i64 f, .int .i64 t]] w fun e w' => e = .returned (.int .i64 (P.both l n f t)) ∧ Below w.heap.size w w' := by
  cases hz : (P.calendar l n != 0)
  · have HC : Aside (P.calendar l n = 0) := by show _ = _; simpa using hz
    go_enter Tryz.func195, Tryz.ntmps195
    go_wp2_with (first
      | (go_at_call 155; refine (checkCalendar_any _ _ _ _ _ (hl.below (by go_grown))).mono ?_; rintro e w1 ⟨rfl, hb1⟩; obtain ⟨hcc, hff⟩ := bcell hb1)
      | (go_at_call 58; refine (check_any _ _ _ _).mono ?_; rintro e w2 ⟨rfl, hb2⟩))
    go_ret
    exact ⟨ret_int (by rw [P.both, if_pos HC.out]), bvia (bvia (by go_grown) hb1) hb2⟩
  · go_enter Tryz.func195, Tryz.ntmps195
    go_wp2_with (go_at_call 155; refine (checkCalendar_any _ _ _ _ _ (hl.below (by go_grown))).mono ?_; rintro e w1 ⟨rfl, hb1⟩; obtain ⟨hcc, hff⟩ := bcell hb1)
    go_ret
    exact ⟨ret_int (by rw [P.both, if_neg (by simpa using hz)]), bvia (by go_grown) hb1⟩

theorem find_hit {l : List (Int × Int)} {p : Int → Int → Bool} {k : Nat} {f t : Int} (hP : ∀ j (h : j < l.length), j < k → p l[j].1 l[j].2 = false) (hk : k < l.length) (hD : l.drop k = (f, t) :: l.drop (k + 1)) (h : p f t = true) : l.findIdx (fun s => p s.1 s.2) = k := by
  have e : l[k] = (f, t) := by
    have := List.drop_eq_getElem_cons hk
    rw [hD] at this
    simp only [List.cons.injEq] at this
    exact this.1.symm
  rw [List.findIdx_eq hk]
  refine ⟨by rw [e]; exact h, fun j hj => ?_⟩
  exact hP j (by omega) hj
theorem find_on {l : List (Int × Int)} {p : Int → Int → Bool} {k : Nat} {f t : Int} (hP : ∀ j (h : j < l.length), j < k → p l[j].1 l[j].2 = false) (hk : k < l.length) (hD : l.drop k = (f, t) :: l.drop (k + 1)) (h : p f t = false) : ∀ j (h : j < l.length), j < k + 1 → p l[j].1 l[j].2 = false := by
  intro j hj hjk
  by_cases e : j < k
  · exact hP j hj e
  · obtain rfl : j = k := by omega
    have := List.drop_eq_getElem_cons hk
    rw [hD] at this
    simp only [List.cons.injEq] at this
    rw [← this.1]
    exact h
theorem find_none {l : List (Int × Int)} {p : Int → Int → Bool} (hP : ∀ j (h : j < l.length), j < l.length → p l[j].1 l[j].2 = false) : l.findIdx (fun s => p s.1 s.2) = l.length := by
  rw [List.findIdx_eq_length]
  intro x hx
  obtain ⟨j, hj, rfl⟩ := List.getElem_of_mem hx
  exact hP j hj hj

set_option maxHeartbeats 1000000 in
/-- 'first', with whatever function literal: it captures one value and answers p. -/
theorem first_any (ao : Option Addr) (cap : Nat) (l : List (Int × Int)) (F : Nat) (c : Value) (p : Int → Int → Bool) (w : World) (hl : SpAt w ao cap l)
    (hcf : ∀ (args : Array Value) (wx : World), (callFunc F args).run Tryz.prog wx = .ok (.enter F args) wx)
    (hp : Hid (∀ (a b : Int) (wx : World), Below w.heap.size w wx → Calls Tryz.prog F #[.agg #[.int .i64 a, .int .i64 b], c] wx fun e w' => e = .returned (.bool (p a b)) ∧ Below wx.heap.size wx w')) :
    Calls Tryz.prog 196 #[.slice ao l.length cap, .func (.func F) #[] #[c]] w fun e w' => e = .returned (.int .i64 (l.findIdx fun s => p s.1 s.2)) ∧ Below w.heap.size w w' := by
  have hle := hl.le
  have hmx := hl.max
  unfold maxLen at hmx
  go_enter Tryz.func196, Tryz.ntmps196
  go_wp2
  go_loopg [9] l.length (fun g i wr => ∃ (k : Nat), k ≤ l.length ∧ g = l.length - k ∧ i = .int .i64 k ∧ (∀ j (h : j < l.length), j < k → p l[j].1 l[j].2 = false) ∧ Below w.heap.size w wr)
  case atStart => exact ⟨0, Nat.zero_le _, rfl, rfl, fun j _ h => by omega, Below.refl _ _⟩
  case round =>
    obtain ⟨k, hk, rfl, rfl, hP, hB⟩ := hrel
    have hBs := hB.size
    have HP : Aside (∀ j (h : j < l.length), j < k → p l[j].1 l[j].2 = false) := hP
    clear hP
    by_cases hlt : k < l.length
    · obtain ⟨b, off, f, t, rfl, hbw, hd, hc0, hc1⟩ := hl.get hB k hlt
      have HD : Aside (l.drop k = (f, t) :: l.drop (k + 1)) := hd
      clear hd
      cases hpf : p f t
      · go_wp2_with fail
        refine (hp.out f t _ (by go_grown)).mono ?_
        rintro e w1 ⟨rfl, hb1⟩
        rw [hpf]
        go_wp2
        go_roundg (l.length - (k + 1))
        case measure => omega
        case rel => exact ⟨k + 1, by omega, rfl, by go_num, find_on HP.out hlt HD.out hpf, bvia (by go_grown) hb1⟩
      · go_wp2_with fail
        refine (hp.out f t _ (by go_grown)).mono ?_
        rintro e w1 ⟨rfl, hb1⟩
        rw [hpf]
        go_wp2
        go_ret
        exact ⟨ret_int (by rw [find_hit HP.out hlt HD.out hpf]), bvia (by go_grown) hb1⟩
    · obtain rfl : k = l.length := by omega
      go_wp2
      go_ret
      exact ⟨ret_int (by rw [find_none HP.out]), hB⟩

end Go.Proofs.YtlamhfbdeinkkaeGreat.Sp
/- Pieces of a list of spans; walks of the function literals of Add and Take. -/
namespace Go.Proofs.YtlamhfbdeinkkaeGreat.Sp
open Go.RowKit
set_option linter.unusedSimpArgs false
set_option linter.unusedVariables false

theorem SpAt.news {w : World} {ao : Option Addr} {cap : Nat} {l : List (Int × Int)} (h : SpAt w ao cap l) : ∀ ad, ao = some ad → ∀ j u, (cellsOf l)[j]? = some u → w.cell? (ad.add j) = some u := by
  intro ad had j u hu
  have hj : j < l.length * 2 := by
    have := (List.getElem?_eq_some_iff.1 hu).1
    rwa [cellsOf_length] at this
  obtain ⟨b, off, e, hlt, hc⟩ := h.cells (by omega)
  rw [had] at e
  cases e
  obtain ⟨c0, c1⟩ := cellsOf_get l (j / 2) (by omega)
  obtain ⟨k0, k1⟩ := hc (j / 2) (by omega)
  have ha : (⟨b, off, none⟩ : Addr).add j = ⟨b, off + j, none⟩ := by unfold Addr.add; split <;> simp_all
  rw [ha]
  rcases Nat.mod_two_eq_zero_or_one j with hm | hm
  · have e : j / 2 * 2 = j := by omega
    rw [e] at c0 k0
    rw [c0] at hu
    rw [k0, hu]
  · have e : j / 2 * 2 + 1 = j := by omega
    have e' : off + j / 2 * 2 + 1 = off + j := by omega
    rw [e] at c1
    rw [e'] at k1
    rw [c1] at hu
    rw [k1, hu]

theorem SpAt.head {w : World} {ao : Option Addr} {cap : Nat} {l : List (Int × Int)} (h : SpAt w ao cap l) (k : Nat) : SpAt w ao cap (l.take k) := by
  have hlen := List.length_take_le k l
  have hlen' : (l.take k).length ≤ l.length := List.length_take_le' k l
  refine ⟨Nat.le_trans hlen' h.le, h.max, h.nil, fun h0 => ?_⟩
  obtain ⟨b, off, rfl, hlt, hc⟩ := h.cells (by omega)
  refine ⟨b, off, rfl, hlt, fun i hi => ?_⟩
  rw [List.getElem_take]
  exact hc i (by omega)

theorem Tryz.sizeSpan : (Tryz.prog.info? 34).map (fun i => i.size) = some 2 := by kernel_rfl

theorem run_sizeSpan (wx : World) : (sizeOf 34).run Tryz.prog wx = .ok 2 wx := by
  have h := Tryz.sizeSpan
  cases hi : Tryz.prog.info? 34 with
  | none => rw [hi] at h; cases h
  | some i =>
    rw [hi] at h
    simp only [Option.map_some, Option.some.injEq] at h
    simp [sizeOf, typeInfo, hi, h]

/-- 'l[:k]' -/
theorem run_head (ao : Option Addr) (n cap k : Nat) (hk : k ≤ cap) (wx : World) : (Instr.slice 79 (.slice ao n cap) none (some (.int .i64 (k : Int))) none).run Tryz.prog wx = .ok (.slice ao k cap) wx := by
  have h0 : (if cap = 0 then ao else ao.map fun x => x.add 0) = ao := by
    split
    · rfl
    · cases ao with
      | none => rfl
      | some a => simp [Addr.add]
  simp [Instr.slice, run_underlying Tryz.underlying79, Instr.sliceBounds, Instr.sliceBound, asIntOf, run_sizeSpan, hk, h0]

/-- where 'l[k:]' begins -/
def tailAt (ao : Option Addr) (cap k : Nat) : Option Addr := if cap = k then ao else ao.map fun x => x.add (k * 2)

/-- 'l[k:]' -/
theorem run_tail (ao : Option Addr) (n cap k : Nat) (hk : k ≤ n) (wx : World) : (Instr.slice 79 (.slice ao n cap) (some (.int .i64 (k : Int))) none none).run Tryz.prog wx = .ok (.slice (tailAt ao cap k) (n - k) (cap - k)) wx := by
  simp [Instr.slice, run_underlying Tryz.underlying79, Instr.sliceBounds, Instr.sliceBound, asIntOf, run_sizeSpan, hk, tailAt]

theorem SpAt.tail {w : World} {ao : Option Addr} {cap : Nat} {l : List (Int × Int)} (h : SpAt w ao cap l) (k : Nat) : SpAt w (tailAt ao cap k) (cap - k) (l.drop k) := by
  have hle := h.le
  have hmx := h.max
  refine ⟨by simp; omega, by omega, fun hn => ?_, fun h0 => ?_⟩
  · have : ao = none := by
      unfold tailAt at hn
      split at hn
      · exact hn
      · simpa using hn
    have := h.nil this
    omega
  · simp at h0
    obtain ⟨b, off, rfl, hlt, hc⟩ := h.cells (by omega)
    refine ⟨b, off + k * 2, ?_, hlt, fun i hi => ?_⟩
    · unfold tailAt
      rw [if_neg (by omega)]
      simp only [Option.map_some]
      unfold Addr.add
      split
      · rename_i h2; rw [h2]; simp
      · rfl
    · simp at hi
      have := hc (k + i) (by omega)
      rw [List.getElem_drop]
      rw [show off + k * 2 + i * 2 = off + (k + i) * 2 by omega]
      exact this

set_option maxHeartbeats 400000 in
theorem addMeet_any (a b f t : Int) (g : Nat) (w : World) (hg : g < w.heap.size) (h0 : w.cell? ⟨g, 0, none⟩ = some (.int .i64 f)) (h1 : w.cell? ⟨g, 1, none⟩ = some (.int .i64 t)) :
    Calls Tryz.prog 197 #[.agg #[.int .i64 a, .int .i64 b], .pointer (some ⟨g, 0, none⟩)] w fun e w' => e = .returned (.bool (P.meet a b f t)) ∧ Below w.heap.size w w' := by
  go_enter Tryz.func197, Tryz.ntmps197
  go_wp2_with (go_at_call 198; refine (meet_any _ _ _ _ _).mono ?_; rintro e w3 ⟨rfl, hb3⟩)
  go_ret
  exact ⟨rfl, bvia (by go_grown) hb3⟩

set_option maxHeartbeats 400000 in
theorem addBehind_any (a b f t : Int) (g : Nat) (w : World) (hg : g < w.heap.size) (h0 : w.cell? ⟨g, 0, none⟩ = some (.int .i64 f)) (h1 : w.cell? ⟨g, 1, none⟩ = some (.int .i64 t)) :
    Calls Tryz.prog 199 #[.agg #[.int .i64 a, .int .i64 b], .pointer (some ⟨g, 0, none⟩)] w fun e w' => e = .returned (.bool (decide (f < a))) ∧ Below w.heap.size w w' := by
  go_enter Tryz.func199, Tryz.ntmps199
  go_wp2
  go_ret
  exact ⟨rfl, by go_grown⟩

end Go.Proofs.YtlamhfbdeinkkaeGreat.Sp
/- Walks of Add and Take. -/
namespace Go.Proofs.YtlamhfbdeinkkaeGreat.Sp
open Go.RowKit
set_option linter.unusedSimpArgs false
set_option linter.unusedVariables false

def P.addE (l : List (Int × Int)) (n f t : Int) : Int := if P.both l n f t = 0 then (if l.findIdx (fun s => P.meet s.1 s.2 f t) < l.length then 6 else 0) else P.both l n f t
def P.addAt (l : List (Int × Int)) (f : Int) : Nat := l.findIdx (fun s => decide (f < s.1))
def P.addL (l : List (Int × Int)) (n f t : Int) : List (Int × Int) := if P.addE l n f t = 0 then l.take (P.addAt l f) ++ (f, t) :: l.drop (P.addAt l f) else []
theorem both_len {l : List (Int × Int)} {n f t : Int} (h : P.both l n f t = 0) : l.length ≤ 7 := by
  unfold P.both at h
  split at h
  · rename_i hc; exact (calendar_len hc).1
  · contradiction

/-- A block that holds a span stays one. -/
structure BoxAt (w : World) (g : Nat) (f t : Int) : Prop where
  lt : g < w.heap.size
  from_ : w.cell? ⟨g, 0, none⟩ = some (.int .i64 f)
  to_ : w.cell? ⟨g, 1, none⟩ = some (.int .i64 t)
theorem BoxAt.below {w w' : World} {g : Nat} {f t : Int} (h : BoxAt w g f t) (hb : Below w.heap.size w w') : BoxAt w' g f t :=
  ⟨Nat.lt_of_lt_of_le h.lt hb.size, by rw [hb.cell (p := ⟨g, 0, none⟩) h.lt]; exact h.from_, by rw [hb.cell (p := ⟨g, 1, none⟩) h.lt]; exact h.to_⟩
theorem BoxAt.new (w : World) (f t : Int) : BoxAt (w.alloc (.cells #[.int .i64 f, .int .i64 t] 34)) w.heap.size f t :=
  ⟨by simp, by simp, by simp⟩

theorem BoxAt.grown {w w' : World} {g : Nat} {f t : Int} {row : Option Nat} (h : BoxAt w g f t) (hg : w.grownBy w' row) (hne : some g ≠ row) : BoxAt w' g f t :=
  ⟨Nat.lt_of_lt_of_le h.lt hg.size, hg.cell h.from_ hne, hg.cell h.to_ hne⟩
theorem SpAt.none {w : World} {ao : Option Addr} {cap : Nat} {l : List (Int × Int)} (h : SpAt w ao cap l) (e : ao = none) : l.length = 0 ∧ cap = 0 := by
  have := h.nil e
  have := h.le
  omega
theorem SpAt.tailNone {w : World} {ao : Option Addr} {cap : Nat} {l : List (Int × Int)} (h : SpAt w ao cap l) (k : Nat) (e : tailAt ao cap k = Option.none) : l.length - k = 0 ∧ cap - k = 0 := by
  have := (h.tail k).none e
  simpa using this

theorem firstMeet_any (ao : Option Addr) (cap : Nat) (l : List (Int × Int)) (g : Nat) (f t : Int) (w : World) (hl : SpAt w ao cap l) (hx : BoxAt w g f t) :
    Calls Tryz.prog 196 #[.slice ao l.length cap, .func (.func 197) #[] #[.pointer (some ⟨g, 0, none⟩)]] w fun e w' => e = .returned (.int .i64 (l.findIdx fun s => P.meet s.1 s.2 f t)) ∧ Below w.heap.size w w' :=
  first_any ao cap l _ _ (fun a b => P.meet a b f t) w hl (fun args wx => by go_simp) (fun a b wx hb => addMeet_any a b f t g wx (hx.below hb).lt (hx.below hb).from_ (hx.below hb).to_)
theorem firstBehind_any (ao : Option Addr) (cap : Nat) (l : List (Int × Int)) (g : Nat) (f t : Int) (w : World) (hl : SpAt w ao cap l) (hx : BoxAt w g f t) :
    Calls Tryz.prog 196 #[.slice ao l.length cap, .func (.func 199) #[] #[.pointer (some ⟨g, 0, none⟩)]] w fun e w' => e = .returned (.int .i64 (P.addAt l f)) ∧ Below w.heap.size w w' :=
  first_any ao cap l _ _ (fun a b => decide (f < a)) w hl (fun args wx => by go_simp) (fun a b wx hb => addBehind_any a b f t g wx (hx.below hb).lt (hx.below hb).from_ (hx.below hb).to_)
set_option maxHeartbeats 1000000 in
theorem add_any (ao : Option Addr) (cap : Nat) (l : List (Int × Int)) (n f t : Int) (w : World) (hl : SpAt w ao cap l) :
    Calls Tryz.prog 154 #[.slice ao l.length cap, .int .i64 n, .agg #[.int .i64 f, .int .i64 t]] w fun e w' => ∃ v', e = .returned (.tuple #[v', .int .i64 (P.addE l n f t)]) ∧ Own w' w.heap.size v' (P.addL l n f t) ∧ Below w.heap.size w w' := by
  cases hz : (P.both l n f t != 0)
  · have HZ : Aside (P.both l n f t = 0) := by show _ = _; simpa using hz
    have h7 := both_len HZ.out
    generalize hM : l.findIdx (fun s => P.meet s.1 s.2 f t) = m
    have HM : Aside (l.findIdx (fun s => P.meet s.1 s.2 f t) = m) := hM
    clear hM
    by_cases hm : m < l.length
    · have e1 : Aside (P.addE l n f t = 6) := by show _ = _; rw [P.addE, if_pos HZ.out, HM.out, if_pos hm]
      go_enter Tryz.func154, Tryz.ntmps154
      go_wp2_with (go_at_call 195; refine (checkBoth_any _ _ _ _ _ _ _ (hl.below (by go_grown))).mono ?_; rintro e w1 ⟨rfl, hb1⟩)
      have hx := (BoxAt.new w f t).below hb1
      have hw1 : Below w.heap.size w w1 := bvia (by go_grown) hb1
      refine (firstMeet_any _ _ _ _ f t _ (hl.below hw1) hx).mono ?_
      rintro e w2 ⟨rfl, hb2⟩
      rw [HM.out]
      go_wp2
      go_ret2
      exact ⟨_, ret2_int e1.out.symm, by rw [P.addL, e1.out, if_neg (by decide)]; exact World.ownsRow_nil _ _ _ _, bvia hw1 hb2⟩
    · have e1 : Aside (P.addE l n f t = 0) := by show _ = _; rw [P.addE, if_pos HZ.out, HM.out, if_neg hm]
      go_enter Tryz.func154, Tryz.ntmps154
      go_wp2_with (go_at_call 195; refine (checkBoth_any _ _ _ _ _ _ _ (hl.below (by go_grown))).mono ?_; rintro e w1 ⟨rfl, hb1⟩)
      have hx := (BoxAt.new w f t).below hb1
      have hw1 : Below w.heap.size w w1 := bvia (by go_grown) hb1
      refine (firstMeet_any _ _ _ _ f t _ (hl.below hw1) hx).mono ?_
      rintro e w2 ⟨rfl, hb2⟩
      rw [HM.out]
      have hx2 := hx.below hb2
      have hw2 : Below w.heap.size w w2 := bvia hw1 hb2
      go_wp2_with fail
      refine (firstBehind_any _ _ _ _ f t _ (hl.below hw2) hx2).mono ?_
      rintro e w3 ⟨rfl, hb3⟩
      obtain ⟨i0, hi, hi0, hi1, hi2⟩ := info_parts Tryz.infoSpan
      have hle := hl.le
      have hk : P.addAt l f ≤ l.length := List.findIdx_le_length
      have HL : Aside (P.addL l n f t = l.take (P.addAt l f) ++ (f, t) :: l.drop (P.addAt l f)) := by show _ = _; rw [P.addL, if_pos e1.out]
      generalize P.addAt l f = k at hk HL
      have hw3 : Below w.heap.size w w3 := bvia hw2 hb3
      have hx3 := hx2.below hb3
      have hs3 := hw3.size
      have hlt3 : w.heap.size < w3.heap.size := hx3.lt
      have hl3 := hl.below hw3
      have hsl1 := run_head ao l.length cap k (by omega)
      have hsl2 := run_tail ao l.length cap k hk
      have hnil := fun h => hl.none h
      have hnil2 := fun h => hl.tailNone k h
      go_wp2_with (first
        | (at_make; refine wpList_make_own _ rfl _ _ 79 rfl w.heap.size 34 i0 _ 2 Tryz.underlying79 hi hi0 hi1 _ _ _ (l.length + 1) rfl rfl (by omega) (by rw [hi2]; omega) (by unfold maxLen; omega) (by omega) ?_; intro w4 hown4 hgrow4; have hw4 : Below w.heap.size w w4 := hw3.grown hgrow4 hs3 (fun k h => by cases h); have hs4 := hgrow4.size; have hc4 := ((hl.below hw4).head k).news)
        | (at_builtin; refine wpList_append_fits_any _ rfl (.tmp 31) (.tmp 34) 79 rfl w.heap.size 34 i0 2 Tryz.underlying79 hi hi1 w3.heap.size 0 (l.length + 1) _ rfl hown4 ao k cap (cellsOf (l.take k)) rfl (by rw [cellsOf_length, List.length_take]; omega) (fun h => by have := hnil h; omega) hc4 (cellsOf_one _) (by omega) ?_; intro w5 hown5 hgrow5; have hw5 : Below w.heap.size w w5 := hw4.grown hgrow5 (by omega) (fun j h => by cases h; exact hs3); have hs5 := hgrow5.size; obtain ⟨hx5, hf5, ht5⟩ := (hx3.grown hgrow4 (by simp)).grown hgrow5 (by simp; omega))
        | (at_builtin; refine wpList_append_fits _ rfl (.tmp 36) (.tmp 38) 79 rfl w.heap.size 34 i0 2 Tryz.underlying79 hi hi1 w3.heap.size k (l.length + 1) _ rfl ((by simpa using hown5 : w5.ownsRow w.heap.size 34 2 (.slice (some ⟨w3.heap.size, 0, Option.none⟩) k (l.length + 1)) k (cellsOf (l.take k))).alloc _) ⟨w5.heap.size, 0, Option.none⟩ 1 1 [.int .i64 f, .int .i64 t] rfl rfl (news_two f t) (by simp; exact ⟨rfl, rfl⟩) (by omega) ?_; intro w6 hown6 hgrow6; have hw6 : Below w.heap.size w w6 := (hw5.alloc (by omega) _).grown hgrow6 (by simp; omega) (fun j h => by cases h; exact hs3); have hs6 := hgrow6.size; have hc6 := ((hl.below hw6).tail k).news)
        | (at_builtin; refine wpList_append_fits_any _ rfl (.tmp 40) (.tmp 43) 79 rfl w.heap.size 34 i0 2 Tryz.underlying79 hi hi1 w3.heap.size (k + 1) (l.length + 1) _ rfl hown6 (tailAt ao cap k) (l.length - k) (cap - k) (cellsOf (l.drop k)) rfl (by rw [cellsOf_length, List.length_drop]) (fun h => by have := hnil2 h; omega) hc6 (cellsOf_one _) (by omega) ?_; intro w7 hown7 hgrow7; have hw7 : Below w.heap.size w w7 := hw6.grown hgrow7 (by simp at hs6; omega) (fun j h => by cases h; exact hs3)))
      go_ret2
      refine ⟨_, ret2_int e1.out.symm, ?_, hw7⟩
      have eL : (l.take k ++ (f, t) :: l.drop k).length = k + 1 + (l.length - k) := by simp; omega
      have eC : cellsOf (l.take k ++ (f, t) :: l.drop k) = cellsOf (l.take k) ++ [.int .i64 f, .int .i64 t] ++ cellsOf (l.drop k) := by
        rw [show l.take k ++ (f, t) :: l.drop k = l.take k ++ [(f, t)] ++ l.drop k by simp, cellsOf_append, cellsOf_append]; rfl
      rw [HL.out, Own, eL, eC]
      exact hown7
  · have HZ : Aside (P.both l n f t ≠ 0) := by show _ ≠ _; simpa using hz
    go_enter Tryz.func154, Tryz.ntmps154
    go_wp2_with (go_at_call 195; refine (checkBoth_any _ _ _ _ _ _ _ (hl.below (by go_grown))).mono ?_; rintro e w1 ⟨rfl, hb1⟩)
    go_ret2
    have e1 : P.addE l n f t = P.both l n f t := by rw [P.addE, if_neg HZ.out]
    exact ⟨_, ret2_int e1.symm, by rw [P.addL, e1, if_neg HZ.out]; exact World.ownsRow_nil _ _ _ _, bvia (by go_grown) hb1⟩

end Go.Proofs.YtlamhfbdeinkkaeGreat.Sp
