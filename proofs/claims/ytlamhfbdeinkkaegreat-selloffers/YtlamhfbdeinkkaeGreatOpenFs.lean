/- How ships, bookings and lists of bookings that are handed in read. -/
import Derived.Test.YtlamhfbdeinkkaeGreatBoAs
import Derived.ProofKit
import Derived.OpenShut
import Derived.ShutString
import Derived.ChangeOld
import Derived.Below
import Derived.SizedLaws
import Derived.Deep.SlicePairs
import Derived.Lib.SmallJoins
namespace Go.Proofs.YtlamhfbdeinkkaeGreat.Bk
open Go.ChangeShapes Go.WideShapes Go.ChangeAt Go.RowKit Go.Deep Go.Joins
set_option linter.unusedSimpArgs false
set_option linter.unusedVariables false
set_option maxRecDepth 10000

theorem Tryz.own : ownKnob Tryz.prog.godebug = none := by kernel_rfl
theorem Tryz.laidOut : laidOutB Tryz.prog = true := by kernel_rfl
theorem Tryz.cellsInt : Tryz.prog.cellsOf 3 = 1 := by kernel_rfl
theorem Tryz.cellsCat : Tryz.prog.cellsOf 141 = 2 := by kernel_rfl
theorem Tryz.cellsCab : Tryz.prog.cellsOf 135 = 4 := by kernel_rfl
theorem Tryz.cellsShip : Tryz.prog.cellsOf 25 = 4 := by kernel_rfl
theorem Tryz.cellsStr : Tryz.prog.cellsOf 9 = 1 := by kernel_rfl
theorem Tryz.cellsBool : Tryz.prog.cellsOf 4 = 1 := by kernel_rfl
theorem Tryz.cellsInts : Tryz.prog.cellsOf 47 = 1 := by kernel_rfl
theorem Tryz.cellsEntry : Tryz.prog.cellsOf 59 = 3 := by kernel_rfl
theorem Tryz.cellsEntries : Tryz.prog.cellsOf 35 = 1 := by kernel_rfl
theorem Tryz.cellsSpan : Tryz.prog.cellsOf 34 = 2 := by kernel_rfl
theorem Tryz.cellsBk : Tryz.prog.cellsOf 37 = 11 := by kernel_rfl
theorem list2 {α : Type} {l : List α} (h : l.length = 2) : ∃ a b, l = [a, b] := by
  match l, h with
  | [a, b], _ => exact ⟨a, b, rfl⟩
theorem list3 {α : Type} {l : List α} (h : l.length = 3) : ∃ a b c, l = [a, b, c] := by
  match l, h with
  | [a, b, c], _ => exact ⟨a, b, c, rfl⟩
theorem list4 {α : Type} {l : List α} (h : l.length = 4) : ∃ a b c d, l = [a, b, c, d] := by
  match l, h with
  | [a, b, c, d], _ => exact ⟨a, b, c, d, rfl⟩
theorem list11 {α : Type} {l : List α} (h : l.length = 11) : ∃ a0 a1 a2 a3 a4 a5 a6 a7 a8 a9 a10, l = [a0, a1, a2, a3, a4, a5, a6, a7, a8, a9, a10] := by
  match l, h with
  | [a0, a1, a2, a3, a4, a5, a6, a7, a8, a9, a10], _ => exact ⟨a0, a1, a2, a3, a4, a5, a6, a7, a8, a9, a10, rfl⟩

section
variable {H : Type} {enc : TypeId × Value → H} {W : World}

/-- A struct, field by field. -/
theorem open_flds {t : TypeId} {fs : Array Field} {fuel : Nat} {cs : List Value} {x : DataW H × List MemPlace} (ht : Tryz.prog.underlying t = some (.struct fs)) (h : DataW.trod enc Tryz.prog W 0 (fun _ => true) true fuel t cs = some x) :
    ∃ n, ∀ (i : Nat) (t' : TypeId) (o c : Nat), (fs[i]?.map fun f => (f.type, f.offset)) = some (t', o) → Tryz.prog.cellsOf t' = c → ∃ y, DataW.trod enc Tryz.prog W 0 (fun _ => true) true n t' ((cs.drop o).take c) = some y := by
  obtain ⟨xs, n, _, _, _, hlen, hf⟩ := DataW.trod_struct ht h
  refine ⟨n, fun i t' o c hi0 hc => ?_⟩
  obtain ⟨f, hi, e⟩ := Option.map_eq_some_iff.1 hi0
  simp only [Prod.mk.injEq] at e
  obtain ⟨rfl, rfl⟩ := e
  subst hc
  have h1 := hf i f hi
  have hlt : i < xs.length := by rw [hlen]; exact (Array.getElem?_eq_some_iff.1 hi).1
  rw [List.getElem?_eq_getElem hlt] at h1
  exact ⟨_, h1⟩

theorem open_ints {n : Nat} {cs : List Value} {x : DataW H × List MemPlace} (h : DataW.trod enc Tryz.prog W 0 (fun _ => true) true n 47 cs = some x) : ∃ ao cap l, cs = [.slice ao l.length cap] ∧ IntsAt W ao cap l :=
  open_sl (size := 1) Tryz.underlying47 Tryz.cellsInt (by omega) (fun n cs' y _ h => by
    obtain ⟨k, e, _⟩ := DataW.trod_int Tryz.underlying3 h
    exact ⟨k, e⟩) h
theorem open_cat {n : Nat} {cs : List Value} {x : DataW H × List MemPlace} (hl : cs.length = 2) (h : DataW.trod enc Tryz.prog W 0 (fun _ => true) true n 141 cs = some x) : ∃ z, Sh.RCat W z cs := by
  obtain ⟨y0, y1, m, _, _, h0, h1⟩ := trod_struct2 Tryz.underlying141 h
  obtain ⟨a, b, rfl⟩ := list2 hl
  simp only [Tryz.cellsStr, Tryz.cellsInts] at h0 h1
  obtain ⟨s, e0, _, hs⟩ := DataW.trod_string Tryz.underlying9 h0
  obtain ⟨ao, cap, l, e1, h3⟩ := open_ints h1
  simp at e0 e1
  subst e0 e1
  exact ⟨(s, l), ao, cap, rfl, h3, hs⟩
theorem open_cab {n : Nat} {cs : List Value} {x : DataW H × List MemPlace} (hl : cs.length = 4) (h : DataW.trod enc Tryz.prog W 0 (fun _ => true) true n 135 cs = some x) : ∃ z, Sh.RCab W z cs := by
  obtain ⟨y0, y1, y2, y3, m, _, _, h0, h1, h2, h3⟩ := trod_struct4 Tryz.underlying135 h
  obtain ⟨a, b, c, d, rfl⟩ := list4 hl
  simp only [Tryz.cellsStr, Tryz.cellsInt, Tryz.cellsBool] at h0 h1 h2 h3
  obtain ⟨s, e0, _, hs⟩ := DataW.trod_string Tryz.underlying9 h0
  obtain ⟨p, e1, _⟩ := DataW.trod_int Tryz.underlying3 h1
  obtain ⟨q, e2, _⟩ := DataW.trod_int Tryz.underlying3 h2
  obtain ⟨r, e3, _⟩ := DataW.trod_bool Tryz.underlying4 h3
  simp at e0 e1 e2 e3
  subst e0 e1 e2 e3
  exact ⟨(s, p, q, r), rfl, hs⟩
theorem open_ent {n : Nat} {cs : List Value} {x : DataW H × List MemPlace} (hl : cs.length = 3) (h : DataW.trod enc Tryz.prog W 0 (fun _ => true) true n 59 cs = some x) : ∃ z, Fo.REnt W z cs := by
  obtain ⟨n, hx⟩ := open_flds Tryz.underlying59 h
  obtain ⟨y0, h0⟩ := hx 0 3 0 1 rfl Tryz.cellsInt
  obtain ⟨y1, h1⟩ := hx 1 3 1 1 rfl Tryz.cellsInt
  obtain ⟨y2, h2⟩ := hx 2 3 2 1 rfl Tryz.cellsInt
  obtain ⟨a, b, c, rfl⟩ := list3 hl
  obtain ⟨p, e0, _⟩ := DataW.trod_int Tryz.underlying3 h0
  obtain ⟨q, e1, _⟩ := DataW.trod_int Tryz.underlying3 h1
  obtain ⟨r, e2, _⟩ := DataW.trod_int Tryz.underlying3 h2
  simp at e0 e1 e2
  subst e0 e1 e2
  exact ⟨(p, q, r), rfl⟩
theorem open_bk {n : Nat} {cs : List Value} {x : DataW H × List MemPlace} (hl : cs.length = 11) (h : DataW.trod enc Tryz.prog W 0 (fun _ => true) true n 37 cs = some x) : ∃ z, RBk W z cs := by
  obtain ⟨n, hx⟩ := open_flds Tryz.underlying37 h
  obtain ⟨y0, h0⟩ := hx 0 3 0 1 rfl Tryz.cellsInt
  obtain ⟨y1, h1⟩ := hx 1 3 1 1 rfl Tryz.cellsInt
  obtain ⟨y2, h2⟩ := hx 2 3 2 1 rfl Tryz.cellsInt
  obtain ⟨y3, h3⟩ := hx 3 3 3 1 rfl Tryz.cellsInt
  obtain ⟨y4, h4⟩ := hx 4 4 4 1 rfl Tryz.cellsBool
  obtain ⟨y5, h5⟩ := hx 5 3 5 1 rfl Tryz.cellsInt
  obtain ⟨y6, h6⟩ := hx 6 3 6 1 rfl Tryz.cellsInt
  obtain ⟨y7, h7⟩ := hx 7 34 7 2 rfl Tryz.cellsSpan
  obtain ⟨y8, h8⟩ := hx 8 3 9 1 rfl Tryz.cellsInt
  obtain ⟨y9, h9⟩ := hx 9 35 10 1 rfl Tryz.cellsEntries
  obtain ⟨a0, a1, a2, a3, a4, a5, a6, a7, a8, a9, a10, rfl⟩ := list11 hl
  obtain ⟨p0, e0, _⟩ := DataW.trod_int Tryz.underlying3 h0
  obtain ⟨p1, e1, _⟩ := DataW.trod_int Tryz.underlying3 h1
  obtain ⟨p2, e2, _⟩ := DataW.trod_int Tryz.underlying3 h2
  obtain ⟨p3, e3, _⟩ := DataW.trod_int Tryz.underlying3 h3
  obtain ⟨p4, e4, _⟩ := DataW.trod_bool Tryz.underlying4 h4
  obtain ⟨p5, e5, _⟩ := DataW.trod_int Tryz.underlying3 h5
  obtain ⟨p6, e6, _⟩ := DataW.trod_int Tryz.underlying3 h6
  obtain ⟨z0, z1, m, _, _, g0, g1⟩ := trod_struct2 Tryz.underlying34 h7
  simp only [Tryz.cellsInt] at g0 g1
  obtain ⟨p7, e7, _⟩ := DataW.trod_int Tryz.underlying3 g0
  obtain ⟨p8, e8, _⟩ := DataW.trod_int Tryz.underlying3 g1
  obtain ⟨p9, e9, _⟩ := DataW.trod_int Tryz.underlying3 h8
  obtain ⟨fo, fc, l, e10, hs⟩ := open_sl (R := Fo.REnt) (size := 3) Tryz.underlying35 Tryz.cellsEntry (by decide) (fun n cs' y hlen hy => open_ent hlen hy) h9
  simp at e0 e1 e2 e3 e4 e5 e6 e7 e8 e9 e10
  subst e0 e1 e2 e3 e4 e5 e6 e7 e8 e9 e10
  exact ⟨⟨p0, p1, p2, p3, p4, p5, p6, p7, p8, p9, l⟩, fo, fc, rfl, hs⟩
theorem open_booking {base : Nat} {v : Value} {d : DataW H} {ps : List MemPlace} (hv : Value.okWide Tryz.prog W .any base 37 v) (h : DataW.Trod enc Tryz.prog W 0 (fun _ => true) true 37 v d ps) :
    ∃ b fo fc, v = V.bk b fo fc ∧ Fo.EntsAt W fo fc b.fol := by
  obtain ⟨cs, rfl, hsz⟩ := okWide_struct Tryz.underlying37 hv
  obtain ⟨fuel, hf⟩ := h
  obtain ⟨b, fo, fc, hz, he⟩ := open_bk (by simpa [Value.cells] using hsz.trans Tryz.cellsBk) hf
  refine ⟨b, fo, fc, ?_, he⟩
  have e : cs.toList = cellsBk b fo fc := by simpa [Value.cells] using hz
  rw [show cs = (cellsBk b fo fc).toArray by rw [← e]]
  rfl
theorem lt_of_trod {t : TypeId} {v : Value} {d : DataW H} {ps : List MemPlace} (h : DataW.Trod enc Tryz.prog W 0 (fun _ => true) true t v d ps) : ∀ x ∈ ps, x.block < W.heap.size := by
  obtain ⟨m, hm⟩ := h
  exact DataW.trod_lt m _ _ _ hm
end

end Go.Proofs.YtlamhfbdeinkkaeGreat.Bk
