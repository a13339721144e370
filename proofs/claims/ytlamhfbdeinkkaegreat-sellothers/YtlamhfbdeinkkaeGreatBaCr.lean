import Derived.Test.YtlamhfbdeinkkaeGreatBaAr
import Derived.Deep.AppendSrc
import Derived.Deep.Upon
import Derived.Deep.AppendLies
import Derived.Deep.RegionHeld3
import Derived.Test.YtlamhfbdeinkkaeGreatBoDr
set_option maxRecDepth 10000
/- Appends inside a statement whose order is open, of whatever elements. -/
namespace Go.Proofs.YtlamhfbdeinkkaeGreat
open Go.RowKit
set_option linter.unusedSimpArgs false
set_option linter.unusedVariables false
set_option linter.unnecessarySimpa false

section
variable {α : Type} {cells : α → List Value} {size : Nat} {e : TypeId}

end

section
variable {ops : Array Oper} {o : Oper} {a : Act} {K : Act → World → Prop} {Q : Exit → Act → World → Prop} {E : Prop}
theorem step_of' (hgd : o.guard = none) {P : Program} {u : World} (h : o.wp P a u K Q) : if Region.wanted o (yielded ops a.tmps) = true then Oper.wp P o a u K Q else E := by
  have hw : Region.wanted o (yielded ops a.tmps) = true := by simp [Region.wanted, hgd]
  rw [if_pos hw]
  exact h
end

end Go.Proofs.YtlamhfbdeinkkaeGreat
namespace Go.Proofs.YtlamhfbdeinkkaeGreat.Bk
open Go.RowKit
set_option linter.unusedSimpArgs false
set_option linter.unusedVariables false

section
variable {α : Type} {cells : α → List Value} {size : Nat} {e : TypeId}
theorem SlAt.part {R : World → α → List Value → Prop} {w : World} {ao : Option Addr} {cap : Nat} {A B : List α} (h : SlAt R size w ao cap (A ++ B)) : SlAt R size w ao cap A := by
  have hle := h.le
  rw [List.length_append] at hle
  refine ⟨by omega, h.max, h.nil, fun h0 => ?_⟩
  obtain ⟨b, off, rfl, hlt, hc⟩ := h.cells (by rw [List.length_append]; omega)
  refine ⟨b, off, rfl, hlt, fun i hi => ?_⟩
  have := hc i (by rw [List.length_append]; omega)
  rwa [List.getElem_append_left hi] at this
def tailOf (size : Nat) (ao : Option Addr) (cap k : Nat) : Option Addr := if cap = k then ao else ao.map fun x => x.add (k * size)
theorem SlAt.rest {R : World → α → List Value → Prop} {w : World} {ao : Option Addr} {cap : Nat} {A B : List α} (h : SlAt R size w ao cap (A ++ B)) : SlAt R size w (tailOf size ao cap A.length) (cap - A.length) B := by
  have hle := h.le
  have hmx := h.max
  rw [List.length_append] at hle
  refine ⟨by omega, by omega, fun hn => ?_, fun h0 => ?_⟩
  · have : ao = none := by
      unfold tailOf at hn
      split at hn
      · exact hn
      · simpa using hn
    have := h.nil this
    omega
  · obtain ⟨b, off, rfl, hlt, hc⟩ := h.cells (by rw [List.length_append]; omega)
    refine ⟨b, off + A.length * size, by rw [tailOf, if_neg (by omega)]; simp [Addr.add], hlt, fun i hi => ?_⟩
    obtain ⟨cs, h1, h2, h3⟩ := hc (A.length + i) (by rw [List.length_append]; omega)
    rw [List.getElem_append_right (by omega)] at h1
    refine ⟨cs, by simpa using h1, h2, fun j u hj => ?_⟩
    have := h3 j u hj
    rw [Nat.add_mul] at this
    rw [show off + A.length * size + i * size + j = off + (A.length * size + i * size) + j by omega]
    exact this
end

theorem cellsV_len (x : BkV) : (cellsV x).length = 11 := rfl
theorem cellsV_one (x : BkV) : ∀ u ∈ cellsV x, u.oneCell' = true := by
  intro u hu
  simp [cellsV, cellsBk] at hu
  rcases hu with rfl | rfl | rfl | rfl | rfl | rfl | rfl | rfl | rfl | rfl | rfl <;> rfl
theorem Tryz.infoBk : (Tryz.prog.info? 37).map (fun i => (i.zero, i.size, i.bytes)) = some (some (.agg #[.int .i64 0, .int .i64 0, .int .i64 0, .int .i64 0, .bool false, .int .i64 0, .int .i64 0, .int .i64 0, .int .i64 0, .int .i64 0, .slice none 0 0]), 11, 104) := by kernel_rfl
abbrev OwnB (w : World) (base : Nat) (v : Value) (l : List BkV) : Prop := OwnC cellsV 11 37 w base v l

theorem BkVsAt.plain {w : World} {ao : Option Addr} {cap : Nat} {l : List BkV} (h : BkVsAt w ao cap l) : SlAt (RC cellsV) 11 w ao cap l := by
  refine ⟨h.le, h.max, h.nil, fun h0 => ?_⟩
  obtain ⟨b, off, rfl, hlt, hc⟩ := h.cells h0
  refine ⟨b, off, rfl, hlt, fun i hi => ?_⟩
  obtain ⟨cs, h1, h2, h3⟩ := hc i hi
  exact ⟨cs, h1.1, h2, h3⟩
theorem BkVsAt.ents {w : World} {ao : Option Addr} {cap : Nat} {l : List BkV} (h : BkVsAt w ao cap l) : ∀ x ∈ l, Fo.EntsAt w x.2.1 x.2.2 x.1.fol := by
  intro x hx
  obtain ⟨i, hi, rfl⟩ := List.getElem_of_mem hx
  obtain ⟨b, off, _, _, hc⟩ := h.cells (by omega)
  obtain ⟨cs, h1, _⟩ := hc i hi
  exact h1.2
theorem bkvs_of {w : World} {ao : Option Addr} {cap : Nat} {l : List BkV} (h : SlAt (RC cellsV) 11 w ao cap l) (he : ∀ x ∈ l, Fo.EntsAt w x.2.1 x.2.2 x.1.fol) : BkVsAt w ao cap l := by
  refine ⟨h.le, h.max, h.nil, fun h0 => ?_⟩
  obtain ⟨b, off, rfl, hlt, hc⟩ := h.cells h0
  refine ⟨b, off, rfl, hlt, fun i hi => ?_⟩
  obtain ⟨cs, h1, h2, h3⟩ := hc i hi
  exact ⟨cs, ⟨h1, he _ (List.getElem_mem hi)⟩, h2, h3⟩

theorem Tryz.sizeBk : (Tryz.prog.info? 37).map (fun i => i.size) = some 11 := by kernel_rfl
theorem run_sizeBk (wx : World) : (sizeOf 37).run Tryz.prog wx = .ok 11 wx := by
  have h := Tryz.sizeBk
  cases hi : Tryz.prog.info? 37 with
  | none => rw [hi] at h; cases h
  | some i =>
    rw [hi] at h
    simp at h
    simp [sizeOf, typeInfo, hi, h]
theorem run_headB (ao : Option Addr) (n cap k : Nat) (hk : k ≤ cap) (wx : World) : (Instr.slice 30 (.slice ao n cap) none (some (.int .i64 (k : Int))) none).run Tryz.prog wx = .ok (.slice ao k cap) wx := by
  simp [Instr.slice, run_underlying Tryz.underlying30, Instr.sliceBounds, Instr.sliceBound, asIntOf, run_sizeBk, hk]
  intro _
  cases ao <;> simp [Addr.add]
theorem run_tailB (ao : Option Addr) (n cap k : Nat) (hk : k ≤ n) (wx : World) : (Instr.slice 30 (.slice ao n cap) (some (.int .i64 (k : Int))) none none).run Tryz.prog wx = .ok (.slice (tailOf 11 ao cap k) (n - k) (cap - k)) wx := by
  simp [Instr.slice, run_underlying Tryz.underlying30, Instr.sliceBounds, Instr.sliceBound, asIntOf, run_sizeBk, hk, tailOf]

end Go.Proofs.YtlamhfbdeinkkaeGreat.Bk
