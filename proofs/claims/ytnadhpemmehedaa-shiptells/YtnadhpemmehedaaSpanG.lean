/- Pieces of a list of spans; walks of the function literals of Add and Take. -/
import Derived.Test.YtnadhpemmehedaaSpanF
namespace Go.Proofs.Ytnadhpemmehedaa
open Go.RowKit
set_option linter.unusedSimpArgs false
set_option linter.unusedVariables false

theorem SpAt.news {w : World} {ao : Option Addr} {cap : Nat} {l : List (Int × Int)} (h : SpAt w ao cap l) : ∀ ad, ao = some ad → ∀ j u, (cellsOf l)[j]? = some u → w.cell? (ad.add j) = some u := by
  intro ad had j u hu
  have hj : j < l.length * 2 := by
    have := (List.getElem?_eq_some_iff.1 hu).1
    rwa [cellsOf_length] at this
  obtain ⟨b, off, e, hlt, hc⟩ := h.cells (by omega)
  rw [had] at e
  cases e
  obtain ⟨c0, c1⟩ := cellsOf_get l (j / 2) (by omega)
  obtain ⟨k0, k1⟩ := hc (j / 2) (by omega)
  have ha : (⟨b, off, none⟩ : Addr).add j = ⟨b, off + j, none⟩ := by unfold Addr.add; split <;> simp_all
  rw [ha]
  rcases Nat.mod_two_eq_zero_or_one j with hm | hm
  · have e : j / 2 * 2 = j := by omega
    rw [e] at c0 k0
    rw [c0] at hu
    rw [k0, hu]
  · have e : j / 2 * 2 + 1 = j := by omega
    have e' : off + j / 2 * 2 + 1 = off + j := by omega
    rw [e] at c1
    rw [e'] at k1
    rw [c1] at hu
    rw [k1, hu]

theorem SpAt.head {w : World} {ao : Option Addr} {cap : Nat} {l : List (Int × Int)} (h : SpAt w ao cap l) (k : Nat) : SpAt w ao cap (l.take k) := by
  have hlen := List.length_take_le k l
  have hlen' : (l.take k).length ≤ l.length := List.length_take_le' k l
  refine ⟨Nat.le_trans hlen' h.le, h.max, h.nil, fun h0 => ?_⟩
  obtain ⟨b, off, rfl, hlt, hc⟩ := h.cells (by omega)
  refine ⟨b, off, rfl, hlt, fun i hi => ?_⟩
  rw [List.getElem_take]
  exact hc i (by omega)

theorem Try.sizeSpan : (Try.prog.info? 24).map (fun i => i.size) = some 2 := by kernel_rfl

theorem run_sizeSpan (wx : World) : (sizeOf 24).run Try.prog wx = .ok 2 wx := by
  have h := Try.sizeSpan
  cases hi : Try.prog.info? 24 with
  | none => rw [hi] at h; cases h
  | some i =>
    rw [hi] at h
    simp only [Option.map_some, Option.some.injEq] at h
    simp [sizeOf, typeInfo, hi, h]

/-- 'l[:k]' -/
theorem run_head (ao : Option Addr) (n cap k : Nat) (hk : k ≤ cap) (wx : World) : (Instr.slice 22 (.slice ao n cap) none (some (.int .i64 (k : Int))) none).run Try.prog wx = .ok (.slice ao k cap) wx := by
  have h0 : (if cap = 0 then ao else ao.map fun x => x.add 0) = ao := by
    split
    · rfl
    · cases ao with
      | none => rfl
      | some a => simp [Addr.add]
  simp [Instr.slice, run_underlying Try.underlying22, Instr.sliceBounds, Instr.sliceBound, asIntOf, run_sizeSpan, hk, h0]

/-- where 'l[k:]' begins -/
def tailAt (ao : Option Addr) (cap k : Nat) : Option Addr := if cap = k then ao else ao.map fun x => x.add (k * 2)

/-- 'l[k:]' -/
theorem run_tail (ao : Option Addr) (n cap k : Nat) (hk : k ≤ n) (wx : World) : (Instr.slice 22 (.slice ao n cap) (some (.int .i64 (k : Int))) none none).run Try.prog wx = .ok (.slice (tailAt ao cap k) (n - k) (cap - k)) wx := by
  simp [Instr.slice, run_underlying Try.underlying22, Instr.sliceBounds, Instr.sliceBound, asIntOf, run_sizeSpan, hk, tailAt]

theorem SpAt.tail {w : World} {ao : Option Addr} {cap : Nat} {l : List (Int × Int)} (h : SpAt w ao cap l) (k : Nat) : SpAt w (tailAt ao cap k) (cap - k) (l.drop k) := by
  have hle := h.le
  have hmx := h.max
  refine ⟨by simp; omega, by omega, fun hn => ?_, fun h0 => ?_⟩
  · have : ao = none := by
      unfold tailAt at hn
      split at hn
      · exact hn
      · simpa using hn
    have := h.nil this
    omega
  · simp at h0
    obtain ⟨b, off, rfl, hlt, hc⟩ := h.cells (by omega)
    refine ⟨b, off + k * 2, ?_, hlt, fun i hi => ?_⟩
    · unfold tailAt
      rw [if_neg (by omega)]
      simp only [Option.map_some]
      unfold Addr.add
      split
      · rename_i h2; rw [h2]; simp
      · rfl
    · simp at hi
      have := hc (k + i) (by omega)
      rw [List.getElem_drop]
      rw [show off + k * 2 + i * 2 = off + (k + i) * 2 by omega]
      exact this

set_option maxHeartbeats 400000 in
theorem addMeet_any (a b f t : Int) (g : Nat) (w : World) (hg : g < w.heap.size) (h0 : w.cell? ⟨g, 0, none⟩ = some (.int .i64 f)) (h1 : w.cell? ⟨g, 1, none⟩ = some (.int .i64 t)) :
    Calls Try.prog 36 #[.agg #[.int .i64 a, .int .i64 b], .pointer (some ⟨g, 0, none⟩)] w fun e w' => e = .returned (.bool (P.meet a b f t)) ∧ Below w.heap.size w w' := by
  go_enter Try.func36, Try.ntmps36
  go_wp2_with (go_at_call 31; refine (meet_any _ _ _ _ _).mono ?_; rintro e w3 ⟨rfl, hb3⟩)
  go_ret
  exact ⟨rfl, bvia (by go_grown) hb3⟩

set_option maxHeartbeats 400000 in
theorem addBehind_any (a b f t : Int) (g : Nat) (w : World) (hg : g < w.heap.size) (h0 : w.cell? ⟨g, 0, none⟩ = some (.int .i64 f)) (h1 : w.cell? ⟨g, 1, none⟩ = some (.int .i64 t)) :
    Calls Try.prog 37 #[.agg #[.int .i64 a, .int .i64 b], .pointer (some ⟨g, 0, none⟩)] w fun e w' => e = .returned (.bool (decide (f < a))) ∧ Below w.heap.size w w' := by
  go_enter Try.func37, Try.ntmps37
  go_wp2
  go_ret
  exact ⟨rfl, by go_grown⟩

set_option maxHeartbeats 400000 in
theorem takeSame_any (a b f t : Int) (g : Nat) (w : World) (hg : g < w.heap.size) (h0 : w.cell? ⟨g, 0, none⟩ = some (.int .i64 f)) (h1 : w.cell? ⟨g, 1, none⟩ = some (.int .i64 t)) :
    Calls Try.prog 38 #[.agg #[.int .i64 a, .int .i64 b], .pointer (some ⟨g, 0, none⟩)] w fun e w' => e = .returned (.bool (decide ((a, b) = (f, t)))) ∧ Below w.heap.size w w' := by
  by_cases e1 : a = f
  · subst e1
    by_cases e2 : b = t
    · subst e2
      go_enter Try.func38, Try.ntmps38
      go_wp2
      go_ret
      exact ⟨by simp, by go_grown⟩
    · have e2' : (b == t) = false := by simpa using e2
      go_enter Try.func38, Try.ntmps38
      go_wp2
      go_ret
      exact ⟨by simp [e2], by go_grown⟩
  · have e1' : (a == f) = false := by simpa using e1
    go_enter Try.func38, Try.ntmps38
    go_wp2
    go_ret
    exact ⟨by simp [e1], by go_grown⟩

end Go.Proofs.Ytnadhpemmehedaa
