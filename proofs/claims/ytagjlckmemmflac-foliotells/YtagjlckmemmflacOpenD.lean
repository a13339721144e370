/- How the arguments of the laws on fares and folios read: numbers, spans, fares, entries, folios. -/
import Derived.Test.YtagjlckmemmflacFarD
import Derived.ProofKit
import Derived.OpenShut
import Derived.ShutString
import Derived.ChangeOld
import Derived.Below
import Derived.Deep.SlicePairs
import Derived.Lib.SmallJoins
namespace Go.Proofs.Ytagjlckmemmflac
open Go.ChangeShapes Go.WideShapes Go.ChangeAt Go.RowKit Go.Deep Go.Joins
set_option linter.unusedSimpArgs false
set_option linter.unusedVariables false

theorem Try.own : ownKnob Try.prog.godebug = none := by kernel_rfl
theorem Try.laidOut : laidOutB Try.prog = true := by kernel_rfl
theorem Try.cellsSpan : Try.prog.cellsOf 27 = 2 := by kernel_rfl
theorem Try.cellsBand : Try.prog.cellsOf 61 = 2 := by kernel_rfl
theorem Try.cellsEntry : Try.prog.cellsOf 44 = 3 := by kernel_rfl
theorem Try.cellsFares : Try.prog.cellsOf 25 = 5 := by kernel_rfl
theorem Try.cellsInt : Try.prog.cellsOf 3 = 1 := by kernel_rfl
theorem Try.cellsInts : Try.prog.cellsOf 57 = 1 := by kernel_rfl

theorem list2 {α : Type} {l : List α} (h : l.length = 2) : ∃ a b, l = [a, b] := by
  match l, h with
  | [a, b], _ => exact ⟨a, b, rfl⟩
theorem list3 {α : Type} {l : List α} (h : l.length = 3) : ∃ a b c, l = [a, b, c] := by
  match l, h with
  | [a, b, c], _ => exact ⟨a, b, c, rfl⟩
theorem array5 {α : Type} {cs : Array α} (h : cs.size = 5) : ∃ a b c d e, cs = #[a, b, c, d, e] := by
  obtain ⟨l⟩ := cs
  match l, h with
  | [a, b, c, d, e], _ => exact ⟨a, b, c, d, e, rfl⟩

section
variable {H : Type} {enc : TypeId × Value → H} {W : World}

/-- A struct all of whose fields are of one cell, field by field. -/
theorem open_fields {t : TypeId} {fs : Array Field} {fuel : Nat} {cs : List Value} {x : DataW H × List MemPlace} (ht : Try.prog.underlying t = some (.struct fs)) (hone : oneCellFields Try.prog fs = true)
    (h : DataW.trod enc Try.prog W 0 (fun _ => true) true fuel t cs = some x) :
    ∃ n, ∀ (i : Nat) (f : Field), fs[i]? = some f → ∃ y, DataW.trod enc Try.prog W 0 (fun _ => true) true n f.type ((cs.drop i).take 1) = some y := by
  obtain ⟨xs, n, _, _, _, hlen, hf⟩ := DataW.trod_struct ht h
  refine ⟨n, fun i f hi => ?_⟩
  have h1 := hf i f hi
  obtain ⟨h2, h3⟩ := hone_of hone i f hi
  have hlt : i < xs.length := by rw [hlen]; exact (Array.getElem?_eq_some_iff.1 hi).1
  rw [h2, h3, List.getElem?_eq_getElem hlt] at h1
  exact ⟨_, h1⟩

theorem open_span {base : Nat} {v : Value} {d : DataW H} {ps : List MemPlace}
    (hv : Value.okWide Try.prog W .any base 27 v) (h : DataW.Trod enc Try.prog W 0 (fun _ => true) true 27 v d ps) : ∃ f t, v = .agg #[.int .i64 f, .int .i64 t] := by
  obtain ⟨c0, c1, y0, y1, m, rfl, _, _, hy0, hy1⟩ := open_agg2 Try.underlying27 (by kernel_rfl) Try.cellsSpan hv h
  obtain ⟨a, e0, _⟩ := DataW.trod_int Try.underlying3 hy0
  obtain ⟨b, e1, _⟩ := DataW.trod_int Try.underlying3 hy1
  simp at e0 e1
  subst e0 e1
  exact ⟨a, b, rfl⟩

theorem open_int' {base : Nat} {v : Value} {d : DataW H} {ps : List MemPlace}
    (hv : Value.okWide Try.prog W .any base 3 v) (h : DataW.Trod enc Try.prog W 0 (fun _ => true) true 3 v d ps) : ∃ n, v = .int .i64 n := by
  obtain ⟨n, rfl, _, _, _⟩ := open_int Try.underlying3 hv h
  exact ⟨n, rfl⟩

theorem open_row {n : Nat} {cs : List Value} {x : DataW H × List MemPlace} (h : DataW.trod enc Try.prog W 0 (fun _ => true) true n 57 cs = some x) : ∃ ao cap l, cs = [.slice ao l.length cap] ∧ IntsAt W ao cap l :=
  open_sl (size := 1) Try.underlying57 Try.cellsInt (by omega) (fun n cs' y _ h => by
    obtain ⟨k, e, _⟩ := DataW.trod_int Try.underlying3 h
    exact ⟨k, e⟩) h

theorem open_band {n : Nat} {cs : List Value} {x : DataW H × List MemPlace} (hl : cs.length = 2) (h : DataW.trod enc Try.prog W 0 (fun _ => true) true n 61 cs = some x) : ∃ z, RPair W z cs := by
  obtain ⟨y0, y1, m, _, _, h0, h1⟩ := trod_struct2 Try.underlying61 h
  obtain ⟨a, b, rfl⟩ := list2 hl
  simp only [Try.cellsInt] at h0 h1
  obtain ⟨p, e0, _⟩ := DataW.trod_int Try.underlying3 h0
  obtain ⟨q, e1, _⟩ := DataW.trod_int Try.underlying3 h1
  simp at e0 e1
  subst e0 e1
  exact ⟨(p, q), rfl⟩

theorem open_fare {base : Nat} {v : Value} {d : DataW H} {ps : List MemPlace} (hv : Value.okWide Try.prog W .any base 25 v) (h : DataW.Trod enc Try.prog W 0 (fun _ => true) true 25 v d ps) :
    ∃ lo bo lc bc L al th B dn, v = V.fare lo bo lc bc L al th B dn ∧ FareAt W lo bo lc bc L B := by
  obtain ⟨cs, rfl, hsz⟩ := okWide_struct Try.underlying25 hv
  obtain ⟨c0, c1, c2, c3, c4, rfl⟩ := array5 (hsz.trans Try.cellsFares)
  obtain ⟨fuel, hf⟩ := h
  obtain ⟨n, hx⟩ := open_fields Try.underlying25 (by kernel_rfl) hf
  obtain ⟨y0, h0⟩ := hx 0 _ rfl
  obtain ⟨y1, h1⟩ := hx 1 _ rfl
  obtain ⟨y2, h2⟩ := hx 2 _ rfl
  obtain ⟨y3, h3⟩ := hx 3 _ rfl
  obtain ⟨y4, h4⟩ := hx 4 _ rfl
  obtain ⟨lo, lc, L, e0, hL⟩ := open_sl (size := 1) (R := RRow) Try.underlying22 Try.cellsInts (by omega) (fun n cs' y hl h => by
    obtain ⟨ao, cap, l, e, hi⟩ := open_row h
    exact ⟨l, ao, cap, e, hi⟩) h0
  obtain ⟨al, e1, _⟩ := DataW.trod_int Try.underlying3 h1
  obtain ⟨th, e2, _⟩ := DataW.trod_int Try.underlying3 h2
  obtain ⟨bo, bc, B, e3, hB⟩ := open_sl (size := 2) (R := RPair) Try.underlying23 Try.cellsBand (by omega) (fun n cs' y hl h => open_band hl h) h3
  obtain ⟨dn, e4, _⟩ := DataW.trod_int Try.underlying3 h4
  simp [Value.cells] at e0 e1 e2 e3 e4
  subst e0 e1 e2 e3 e4
  exact ⟨lo, bo, lc, bc, L, al, th, B, dn, rfl, hL, hB⟩

theorem lt_of_trod {t : TypeId} {v : Value} {d : DataW H} {ps : List MemPlace} (h : DataW.Trod enc Try.prog W 0 (fun _ => true) true t v d ps) : ∀ x ∈ ps, x.block < W.heap.size := by
  obtain ⟨m, hm⟩ := h
  exact DataW.trod_lt m _ _ _ hm
end

end Go.Proofs.Ytagjlckmemmflac
