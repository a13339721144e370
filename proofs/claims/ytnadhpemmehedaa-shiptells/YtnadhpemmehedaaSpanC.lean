/- Lists of spans in memory; walks of checkCalendar and CheckCalendar. -/
import Derived.Test.YtnadhpemmehedaaSpanB
import Derived.Deep.LoopGhost
namespace Go.Proofs.Ytnadhpemmehedaa
open Go.RowKit
set_option linter.unusedSimpArgs false
set_option linter.unusedVariables false

/-- The slice (address ao, capacity cap, as many elements as l) holds the spans l. -/
structure SpAt (w : World) (ao : Option Addr) (cap : Nat) (l : List (Int × Int)) : Prop where
  le : l.length ≤ cap
  max : cap ≤ maxLen
  nil : ao = none → cap = 0
  cells : 0 < l.length → ∃ b off, ao = some ⟨b, off, none⟩ ∧ b < w.heap.size ∧ ∀ i (h : i < l.length), w.cell? ⟨b, off + i * 2, none⟩ = some (.int .i64 (l[i]).1) ∧ w.cell? ⟨b, off + i * 2 + 1, none⟩ = some (.int .i64 (l[i]).2)

theorem SpAt.get {w w' : World} {ao : Option Addr} {cap : Nat} {l : List (Int × Int)} (h : SpAt w ao cap l) (hb : Below w.heap.size w w') (k : Nat) (hk : k < l.length) :
    ∃ b off f t, ao = some ⟨b, off, none⟩ ∧ b < w.heap.size ∧ l.drop k = (f, t) :: l.drop (k + 1) ∧ w'.cell? ⟨b, off + k * 2, none⟩ = some (.int .i64 f) ∧ w'.cell? ⟨b, off + k * 2 + 1, none⟩ = some (.int .i64 t) := by
  obtain ⟨b, off, rfl, hlt, hc⟩ := h.cells (by omega)
  refine ⟨b, off, l[k].1, l[k].2, rfl, hlt, List.drop_eq_getElem_cons hk, ?_, ?_⟩
  · rw [hb.cell (p := ⟨b, off + k * 2, none⟩) hlt]; exact (hc k hk).1
  · rw [hb.cell (p := ⟨b, off + k * 2 + 1, none⟩) hlt]; exact (hc k hk).2

theorem SpAt.below {w w' : World} {ao : Option Addr} {cap : Nat} {l : List (Int × Int)} (h : SpAt w ao cap l) (hb : Below w.heap.size w w') : SpAt w' ao cap l := by
  refine ⟨h.le, h.max, h.nil, fun h0 => ?_⟩
  obtain ⟨b, off, rfl, hlt, hc⟩ := h.cells h0
  refine ⟨b, off, rfl, Nat.lt_of_lt_of_le hlt hb.size, fun i hi => ?_⟩
  rw [hb.cell (p := ⟨b, off + i * 2, none⟩) hlt, hb.cell (p := ⟨b, off + i * 2 + 1, none⟩) hlt]
  exact hc i hi

def P.cal (n : Int) : Int → List (Int × Int) → Int
  | _, [] => 0
  | e, s :: l => if P.chk s.1 s.2 n = 0 then (if s.1 < e then 4 else P.cal n s.2 l) else P.chk s.1 s.2 n
def P.calendar (l : List (Int × Int)) (n : Int) : Int := if P.sails n = true then P.cal n 0 l else 3

theorem cal_bad {l : List (Int × Int)} {n e0 f t : Int} {k : Nat} (hs : P.sails n = true) (hP : P.cal n e0 (l.drop k) = P.cal n 0 l) (hD : l.drop k = (f, t) :: l.drop (k + 1)) (h : (P.chk f t n != 0) = true) :
    P.calendar l n = P.chk f t n := by
  rw [P.calendar, if_pos hs, ← hP, hD, P.cal, if_neg (by simpa using h)]
theorem cal_low {l : List (Int × Int)} {n e0 f t : Int} {k : Nat} (hs : P.sails n = true) (hP : P.cal n e0 (l.drop k) = P.cal n 0 l) (hD : l.drop k = (f, t) :: l.drop (k + 1)) (h : (P.chk f t n != 0) = false) (h2 : f < e0) :
    P.calendar l n = 4 := by
  rw [P.calendar, if_pos hs, ← hP, hD, P.cal, if_pos (by simpa using h), if_pos h2]
theorem cal_on {l : List (Int × Int)} {n e0 f t : Int} {k : Nat} (hP : P.cal n e0 (l.drop k) = P.cal n 0 l) (hD : l.drop k = (f, t) :: l.drop (k + 1)) (h : (P.chk f t n != 0) = false) (h2 : e0 ≤ f) :
    P.cal n t (l.drop (k + 1)) = P.cal n 0 l := by
  rw [← hP, hD, P.cal, if_pos (by simpa using h), if_neg (by simpa using h2)]

set_option maxHeartbeats 1000000 in
theorem checkCalendar_any (ao : Option Addr) (cap : Nat) (l : List (Int × Int)) (n : Int) (w : World) (hl : SpAt w ao cap l) :
    Calls Try.prog 32 #[.slice ao l.length cap, .int .i64 n] w fun e w' => e = .returned (.int .i64 (P.calendar l n)) ∧ Below w.heap.size w w' := by
  have hle := hl.le
  have hmx := hl.max
  unfold maxLen at hmx
  cases hs : P.sails n
  · go_enter Try.func32, Try.ntmps32
    go_wp2_with (go_at_call 40; refine (sails_any _ _).mono ?_; rintro e w' ⟨rfl, rfl⟩; rw [hs])
    go_ret
    exact ⟨by simp [P.calendar, hs], Below.refl _ _⟩
  · go_enter Try.func32, Try.ntmps32
    go_wp2_with (go_at_call 40; refine (sails_any _ _).mono ?_; rintro e w' ⟨rfl, rfl⟩; rw [hs])
    go_loopg [5, 14] l.length (fun g en i wr => ∃ (k : Nat) (e : Int), k ≤ l.length ∧ g = l.length - k ∧ i = .int .i64 k ∧ en = .int .i64 e ∧ P.cal n e (l.drop k) = P.cal n 0 l ∧ Below w.heap.size w wr)
    case atStart => exact ⟨0, 0, Nat.zero_le _, rfl, rfl, rfl, rfl, Below.refl _ _⟩
    case round =>
      obtain ⟨k, e0, hk, rfl, rfl, rfl, hP, hB⟩ := hrel
      have hBs := hB.size
      have HP : Aside (P.cal n e0 (l.drop k) = P.cal n 0 l) := hP
      clear hP
      by_cases hlt : k < l.length
      · obtain ⟨b, off, f, t, rfl, hbw, hd, hc0, hc1⟩ := hl.get hB k hlt
        have HD : Aside (l.drop k = (f, t) :: l.drop (k + 1)) := hd
        clear hd
        go_wp2_with (go_at_call 19; refine (check_any _ _ _ _).mono ?_; rintro e w1 ⟨rfl, hb1⟩; obtain ⟨hcc, hff⟩ := bcell hb1)
        · go_ret
          exact ⟨ret_int (cal_bad hs HP.out HD.out ‹_›).symm, bvia (by go_grown) hb1⟩
        · go_ret
          exact ⟨ret_int (cal_low hs HP.out HD.out ‹_› ‹_›).symm, bvia (by go_grown) hb1⟩
        · go_roundg (l.length - (k + 1))
          case measure => omega
          case rel => exact ⟨k + 1, t, by omega, rfl, by go_num, rfl, cal_on HP.out HD.out ‹_› ‹_›, bvia (by go_grown) hb1⟩
      · have : k = l.length := by omega
        subst this
        go_wp2
        go_ret
        have hP := HP.out
        refine ⟨?_, hB⟩
        rw [P.calendar, if_pos hs, ← hP]
        simp [P.cal]

end Go.Proofs.Ytnadhpemmehedaa
