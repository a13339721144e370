/- How the arguments of the laws on requests read; what the table of the parts holds. -/
import Derived.Test.YtfiaeokdcbmedafDoorCdC
import Derived.ProofKit
import Derived.OpenShut
import Derived.ShutString
import Derived.ChangeOld
import Derived.Below
import Derived.Deep.DeepHandedRow
namespace Go.Proofs.YtfiaeokdcbmedafDoor
open Go.ChangeShapes Go.WideShapes Go.ChangeAt Go.RowKit Go.Deep
set_option linter.unusedSimpArgs false
set_option linter.unusedVariables false

theorem Tryd.own : ownKnob Tryd.prog.godebug = none := by kernel_rfl
theorem Tryd.laidOut : laidOutB Tryd.prog = true := by kernel_rfl
theorem Tryd.cellsSpan : Tryd.prog.cellsOf 23 = 2 := by kernel_rfl
theorem Tryd.cellsInt : Tryd.prog.cellsOf 3 = 1 := by kernel_rfl
theorem Tryd.cellsBool : Tryd.prog.cellsOf 4 = 1 := by kernel_rfl
theorem Tryd.cellsAsk : Tryd.prog.cellsOf 25 = 11 := by kernel_rfl
theorem Tryd.cellsPart : Tryd.prog.cellsOf 52 = 2 := by kernel_rfl
theorem Tryd.cellsParts : Tryd.prog.cellsOf 53 = 18 := by kernel_rfl
theorem Tryd.gParts : Tryd.prog.globalNamed "taffrail/code.parts" = some 0 := by kernel_rfl
theorem Tryd.gPartsType : (Tryd.prog.globals[0]?).map (·.type) = some 53 := by kernel_rfl

theorem lst11 {α : Type} {l : List α} (h : l.length = 11) : ∃ a0 a1 a2 a3 a4 a5 a6 a7 a8 a9 a10, l = [a0, a1, a2, a3, a4, a5, a6, a7, a8, a9, a10] := by
  match l, h with
  | [a0, a1, a2, a3, a4, a5, a6, a7, a8, a9, a10], _ => exact ⟨_, _, _, _, _, _, _, _, _, _, _, rfl⟩

section
variable {H : Type} {enc : TypeId × Value → H} {W : World}

theorem flds {t : TypeId} {fs : Array Field} {fuel : Nat} {cs : List Value} {x : DataW H × List MemPlace} (ht : Tryd.prog.underlying t = some (.struct fs)) (h : DataW.trod enc Tryd.prog W 0 (fun _ => true) true fuel t cs = some x) :
    ∃ n, ∀ (i : Nat) ty o k, (fs[i]?).map (fun f => (f.type, f.offset)) = some (ty, o) → Tryd.prog.cellsOf ty = k → ∃ y, DataW.trod enc Tryd.prog W 0 (fun _ => true) true n ty ((cs.drop o).take k) = some y := by
  obtain ⟨xs, n, _, rfl, hl, hlen, hf⟩ := DataW.trod_struct ht h
  refine ⟨n, fun i ty o k hi hk => ?_⟩
  obtain ⟨f, hfi, hfe⟩ := Option.map_eq_some_iff.1 hi
  simp only [Prod.mk.injEq] at hfe
  obtain ⟨e1, e2⟩ := hfe
  have hilt := (Array.getElem?_eq_some_iff.1 hfi).1
  have := hf i f hfi
  rw [e1, e2, hk] at this
  exact ⟨xs[i]'(by rw [hlen]; exact hilt), by rw [this, List.getElem?_eq_getElem]⟩

theorem open_ask {base : Nat} {v : Value} {d : DataW H} {ps : List MemPlace} (hv : Value.okWide Tryd.prog W .any base 25 v) (h : DataW.Trod enc Tryd.prog W 0 (fun _ => true) true 25 v d ps) : ∃ a : Ask, v = V.ask a := by
  obtain ⟨cs, rfl, hsz⟩ := okWide_struct Tryd.underlying25 hv
  obtain ⟨fuel, hf⟩ := h
  have hl : cs.toList.length = 11 := by simpa [Value.cells] using hsz.trans Tryd.cellsAsk
  obtain ⟨n, hx⟩ := flds Tryd.underlying25 (show DataW.trod enc Tryd.prog W 0 (fun _ => true) true fuel _ cs.toList = _ by simpa [Value.cells] using hf)
  obtain ⟨y0, h0⟩ := hx 0 3 0 1 rfl Tryd.cellsInt
  obtain ⟨y1, h1⟩ := hx 1 3 1 1 rfl Tryd.cellsInt
  obtain ⟨y2, h2⟩ := hx 2 3 2 1 rfl Tryd.cellsInt
  obtain ⟨y3, h3⟩ := hx 3 3 3 1 rfl Tryd.cellsInt
  obtain ⟨y4, h4⟩ := hx 4 4 4 1 rfl Tryd.cellsBool
  obtain ⟨y5, h5⟩ := hx 5 3 5 1 rfl Tryd.cellsInt
  obtain ⟨y6, h6⟩ := hx 6 3 6 1 rfl Tryd.cellsInt
  obtain ⟨y7, h7⟩ := hx 7 23 7 2 rfl Tryd.cellsSpan
  obtain ⟨y8, h8⟩ := hx 8 3 9 1 rfl Tryd.cellsInt
  obtain ⟨y9, h9⟩ := hx 9 3 10 1 rfl Tryd.cellsInt
  obtain ⟨a0, a1, a2, a3, a4, a5, a6, a7, a8, a9, a10, hcs⟩ := lst11 hl
  rw [hcs] at h0 h1 h2 h3 h4 h5 h6 h7 h8 h9
  obtain ⟨p0, e0, _⟩ := DataW.trod_int Tryd.underlying3 h0
  obtain ⟨p1, e1, _⟩ := DataW.trod_int Tryd.underlying3 h1
  obtain ⟨p2, e2, _⟩ := DataW.trod_int Tryd.underlying3 h2
  obtain ⟨p3, e3, _⟩ := DataW.trod_int Tryd.underlying3 h3
  obtain ⟨p4, e4, _⟩ := DataW.trod_bool Tryd.underlying4 h4
  obtain ⟨p5, e5, _⟩ := DataW.trod_int Tryd.underlying3 h5
  obtain ⟨p6, e6, _⟩ := DataW.trod_int Tryd.underlying3 h6
  obtain ⟨z0, z1, m, _, _, g0, g1⟩ := trod_struct2 Tryd.underlying23 h7
  simp only [Tryd.cellsInt] at g0 g1
  obtain ⟨p7, e7, _⟩ := DataW.trod_int Tryd.underlying3 g0
  obtain ⟨p8, e8, _⟩ := DataW.trod_int Tryd.underlying3 g1
  obtain ⟨p9, e9, _⟩ := DataW.trod_int Tryd.underlying3 h8
  obtain ⟨p10, e10, _⟩ := DataW.trod_int Tryd.underlying3 h9
  simp at e0 e1 e2 e3 e4 e5 e6 e7 e8 e9 e10
  subst e0 e1 e2 e3 e4 e5 e6 e7 e8 e9 e10
  refine ⟨⟨p0, p1, p2, p3, p4, p5, p6, p7, p8, p9, p10⟩, ?_⟩
  obtain ⟨c⟩ := cs
  have hcs' : c = _ := hcs
  rw [hcs']

theorem open_str {base : Nat} {v : Value} {d : DataW H} {ps : List MemPlace} (hv : Value.okWide Tryd.prog W .any base 9 v) (h : DataW.Trod enc Tryd.prog W 0 (fun _ => true) true 9 v d ps) : ∃ l : List UInt8, v = .string ⟨l.toArray⟩ ∧ l.length ≤ 9223372036854775807 := by
  obtain ⟨s, rfl, _, _, hs⟩ := Go.ChangeMaps.open_string Tryd.underlying9 hv h
  refine ⟨s.data.toList, by rw [Lib.mk_data], ?_⟩
  rw [Lib.size_eq] at hs
  simp only [maxLen] at hs
  omega

/-- What the row's list gives. -/
theorem parts_of {W : World} {rest : List (String × DataW Unit)} (h : laidMet Tryd.prog (("taffrail/code.parts", Rows.laid_taffrail_code_parts) :: rest) W) : PartsAt W := by
  obtain ⟨ps, ⟨g, t, cs, fuel, p, q, hg, ht, hvar, hd, _, _⟩, _⟩ := h
  obtain rfl := Option.some.inj (Tryd.gParts.symm.trans hg)
  obtain rfl := Option.some.inj (Tryd.gPartsType.symm.trans ht)
  obtain ⟨xs, m, _, hx, hlen, hn, hel⟩ := DataW.trod_array Tryd.underlying53 hd
  rw [Tryd.cellsParts] at hlen
  simp only [Tryd.cellsPart] at hel
  have each : ∀ (j : Nat) (a b : Int) (hj : j < 9), (xs.map (·.1))[j]? = some (.agg [.lit (.int .i64 a), .lit (.int .i64 b)]) → cs[j * 2]? = some (.int .i64 a) ∧ cs[j * 2 + 1]? = some (.int .i64 b) := by
    intro j a b hj hjx
    have h1 := hel j hj
    rw [List.getElem?_map] at hjx
    obtain ⟨x, hx1, hx2⟩ := Option.map_eq_some_iff.1 hjx
    rw [hx1] at h1
    obtain ⟨y0, y1, k, e, _, g0, g1⟩ := trod_struct2 Tryd.underlying52 h1
    simp only [Tryd.cellsInt] at g0 g1
    obtain ⟨p0, e0, f0, _⟩ := DataW.trod_int Tryd.underlying3 g0
    obtain ⟨p1, e1, f1, _⟩ := DataW.trod_int Tryd.underlying3 g1
    subst f0 f1
    subst e
    simp at hx2
    obtain ⟨rfl, rfl⟩ := hx2
    have l0 : j * 2 < cs.toList.length := by rw [hlen]; omega
    have l1 : j * 2 + 1 < cs.toList.length := by rw [hlen]; omega
    have t0 : (cs.toList.drop (j * 2)).take 2 = [cs.toList[j * 2], cs.toList[j * 2 + 1]] := by
      rw [List.drop_eq_getElem_cons l0, List.drop_eq_getElem_cons l1]; rfl
    rw [t0] at e0 e1
    simp at e0 e1
    rw [← Array.getElem?_toList, ← Array.getElem?_toList, List.getElem?_eq_getElem l0, List.getElem?_eq_getElem l1]
    simp [e0, e1]
  have hl : _ = xs.map (·.1) := DataW.agg.inj (show DataW.agg _ = DataW.agg _ from (Prod.mk.inj hx).1)
  have q0 := each 0 3 999999 (by decide) (by rw [← hl]; rfl)
  have q1 := each 1 1 255 (by decide) (by rw [← hl]; rfl)
  have q2 := each 2 1 255 (by decide) (by rw [← hl]; rfl)
  have q3 := each 3 1 255 (by decide) (by rw [← hl]; rfl)
  have q4 := each 4 1 255 (by decide) (by rw [← hl]; rfl)
  have q5 := each 5 1 255 (by decide) (by rw [← hl]; rfl)
  have q6 := each 6 1 1 (by decide) (by rw [← hl]; rfl)
  have q7 := each 7 2 65535 (by decide) (by rw [← hl]; rfl)
  have q8 := each 8 4 100000000 (by decide) (by rw [← hl]; rfl)
  refine ⟨fun j hj => ?_, fun j hj => ?_⟩
  · match j, hj with
    | 0, _ => exact (World.var?_cell hg hvar (0 * 2)).trans q0.1
    | 1, _ => exact (World.var?_cell hg hvar (1 * 2)).trans q1.1
    | 2, _ => exact (World.var?_cell hg hvar (2 * 2)).trans q2.1
    | 3, _ => exact (World.var?_cell hg hvar (3 * 2)).trans q3.1
    | 4, _ => exact (World.var?_cell hg hvar (4 * 2)).trans q4.1
    | 5, _ => exact (World.var?_cell hg hvar (5 * 2)).trans q5.1
    | 6, _ => exact (World.var?_cell hg hvar (6 * 2)).trans q6.1
    | 7, _ => exact (World.var?_cell hg hvar (7 * 2)).trans q7.1
    | 8, _ => exact (World.var?_cell hg hvar (8 * 2)).trans q8.1
  · match j, hj with
    | 0, _ => exact (World.var?_cell hg hvar (0 * 2 + 1)).trans q0.2
    | 1, _ => exact (World.var?_cell hg hvar (1 * 2 + 1)).trans q1.2
    | 2, _ => exact (World.var?_cell hg hvar (2 * 2 + 1)).trans q2.2
    | 3, _ => exact (World.var?_cell hg hvar (3 * 2 + 1)).trans q3.2
    | 4, _ => exact (World.var?_cell hg hvar (4 * 2 + 1)).trans q4.2
    | 5, _ => exact (World.var?_cell hg hvar (5 * 2 + 1)).trans q5.2
    | 6, _ => exact (World.var?_cell hg hvar (6 * 2 + 1)).trans q6.2
    | 7, _ => exact (World.var?_cell hg hvar (7 * 2 + 1)).trans q7.2
    | 8, _ => exact (World.var?_cell hg hvar (8 * 2 + 1)).trans q8.2
end

theorem lt_trod {H : Type} {enc : TypeId × Value → H} {W : World} {t : TypeId} {v : Value} {d : DataW H} {ps : List MemPlace} (h : DataW.Trod enc Tryd.prog W 0 (fun _ => true) true t v d ps) : ∀ x ∈ ps, x.block < W.heap.size := by
  obtain ⟨m, hm⟩ := h
  exact DataW.trod_lt m _ _ _ hm

/-- A world in which the table holds what its initialiser lays. -/
noncomputable def laidWorld (os : Os) : World :=
  { World.holding Tryd.prog os ⟨#[], #[], []⟩ with heap := (World.holding Tryd.prog os ⟨#[], #[], []⟩).heap.modify 0 fun
      | .cells _ t frozen => .cells #[.int .i64 3, .int .i64 999999, .int .i64 1, .int .i64 255, .int .i64 1, .int .i64 255, .int .i64 1, .int .i64 255, .int .i64 1, .int .i64 255, .int .i64 1, .int .i64 255, .int .i64 1, .int .i64 1, .int .i64 2, .int .i64 65535, .int .i64 4, .int .i64 100000000] t frozen
      | o => o }

end Go.Proofs.YtfiaeokdcbmedafDoor
