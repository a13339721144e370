/- How entries and folios that are handed in read. -/
import Derived.Test.YtagjlckmemmflacOpenD
import Derived.Test.YtagjlckmemmflacFolA
namespace Go.Proofs.Ytagjlckmemmflac
open Go.ChangeShapes Go.WideShapes Go.ChangeAt Go.RowKit Go.Deep Go.Joins
set_option linter.unusedSimpArgs false
set_option linter.unusedVariables false

theorem array3 {α : Type} {cs : Array α} (h : cs.size = 3) : ∃ a b c, cs = #[a, b, c] := by
  obtain ⟨l⟩ := cs
  match l, h with
  | [a, b, c], _ => exact ⟨a, b, c, rfl⟩

section
variable {H : Type} {enc : TypeId × Value → H} {W : World}

theorem open_ent {n : Nat} {cs : List Value} {x : DataW H × List MemPlace} (hl : cs.length = 3) (h : DataW.trod enc Try.prog W 0 (fun _ => true) true n 44 cs = some x) : ∃ z, REnt W z cs := by
  obtain ⟨n, hx⟩ := open_fields Try.underlying44 (by kernel_rfl) h
  obtain ⟨y0, h0⟩ := hx 0 _ rfl
  obtain ⟨y1, h1⟩ := hx 1 _ rfl
  obtain ⟨y2, h2⟩ := hx 2 _ rfl
  obtain ⟨a, b, c, rfl⟩ := list3 hl
  obtain ⟨p, e0, _⟩ := DataW.trod_int Try.underlying3 h0
  obtain ⟨q, e1, _⟩ := DataW.trod_int Try.underlying3 h1
  obtain ⟨r, e2, _⟩ := DataW.trod_int Try.underlying3 h2
  simp at e0 e1 e2
  subst e0 e1 e2
  exact ⟨(p, q, r), rfl⟩

theorem open_entry {base : Nat} {v : Value} {d : DataW H} {ps : List MemPlace} (hv : Value.okWide Try.prog W .any base 44 v) (h : DataW.Trod enc Try.prog W 0 (fun _ => true) true 44 v d ps) :
    ∃ d k a, v = .agg #[.int .i64 d, .int .i64 k, .int .i64 a] := by
  obtain ⟨cs, rfl, hsz⟩ := okWide_struct Try.underlying44 hv
  obtain ⟨c0, c1, c2, rfl⟩ := array3 (hsz.trans Try.cellsEntry)
  obtain ⟨fuel, hf⟩ := h
  obtain ⟨⟨p, q, r⟩, hz⟩ := open_ent rfl hf
  simp [REnt, Value.cells] at hz
  obtain ⟨rfl, rfl, rfl⟩ := hz
  exact ⟨p, q, r, rfl⟩

theorem open_folio {base : Nat} {v : Value} {d : DataW H} {ps : List MemPlace} (hv : Value.okWide Try.prog W .any base 42 v) (h : DataW.Trod enc Try.prog W 0 (fun _ => true) true 42 v d ps) :
    ∃ ao cap l, v = .slice ao l.length cap ∧ EntsAt W ao cap l := by
  obtain ⟨a0, len, cap, rfl⟩ := okWide_slice Try.underlying42 hv
  obtain ⟨fuel, hf⟩ := h
  obtain ⟨ao, cap', l, hcs, hs⟩ := open_sl (R := REnt) (size := 3) Try.underlying42 Try.cellsEntry (by decide) (fun n cs' y hlen hy => open_ent hlen hy) hf
  simp [Value.cells] at hcs
  obtain ⟨rfl, rfl, rfl⟩ := hcs
  exact ⟨_, _, _, rfl, hs⟩
end

end Go.Proofs.Ytagjlckmemmflac
