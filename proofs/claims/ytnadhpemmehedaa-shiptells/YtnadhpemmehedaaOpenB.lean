/- How a ship reads as an argument. -/
import Derived.Test.YtnadhpemmehedaaOpenA
import Derived.Test.YtnadhpemmehedaaShipE
namespace Go.Proofs.Ytnadhpemmehedaa
open Go.ChangeShapes Go.WideShapes Go.ChangeAt Go.RowKit Go.Deep Go.Joins
set_option linter.unusedSimpArgs false
set_option linter.unusedVariables false

theorem Try.cellsCat : Try.prog.cellsOf 49 = 2 := by kernel_rfl
theorem Try.cellsCab : Try.prog.cellsOf 79 = 4 := by kernel_rfl
theorem Try.cellsShip : Try.prog.cellsOf 45 = 4 := by kernel_rfl
theorem Try.cellsStr : Try.prog.cellsOf 9 = 1 := by kernel_rfl
theorem Try.cellsBool : Try.prog.cellsOf 4 = 1 := by kernel_rfl
theorem Try.cellsInts : Try.prog.cellsOf 47 = 1 := by kernel_rfl

theorem list2 {α : Type} {l : List α} (h : l.length = 2) : ∃ a b, l = [a, b] := by
  match l, h with
  | [a, b], _ => exact ⟨a, b, rfl⟩
theorem list4 {α : Type} {l : List α} (h : l.length = 4) : ∃ a b c d, l = [a, b, c, d] := by
  match l, h with
  | [a, b, c, d], _ => exact ⟨a, b, c, d, rfl⟩

section
variable {H : Type} {enc : TypeId × Value → H} {W : World}

theorem open_ints {n : Nat} {cs : List Value} {x : DataW H × List MemPlace} (h : DataW.trod enc Try.prog W 0 (fun _ => true) true n 47 cs = some x) : ∃ ao cap l, cs = [.slice ao l.length cap] ∧ IntsAt W ao cap l :=
  open_sl (size := 1) Try.underlying47 Try.cellsInt (by omega) (fun n cs' y _ h => by
    obtain ⟨k, e, _⟩ := DataW.trod_int Try.underlying3 h
    exact ⟨k, e⟩) h

theorem open_cat {n : Nat} {cs : List Value} {x : DataW H × List MemPlace} (hl : cs.length = 2) (h : DataW.trod enc Try.prog W 0 (fun _ => true) true n 49 cs = some x) : ∃ z, RCat W z cs := by
  obtain ⟨y0, y1, m, _, _, h0, h1⟩ := trod_struct2 Try.underlying49 h
  obtain ⟨a, b, rfl⟩ := list2 hl
  simp only [Try.cellsStr, Try.cellsInts] at h0 h1
  obtain ⟨s, e0, _, hs⟩ := DataW.trod_string Try.underlying9 h0
  obtain ⟨ao, cap, l, e1, h3⟩ := open_ints h1
  simp at e0 e1
  subst e0 e1
  exact ⟨(s, l), ao, cap, rfl, h3, hs⟩

theorem open_cab {n : Nat} {cs : List Value} {x : DataW H × List MemPlace} (hl : cs.length = 4) (h : DataW.trod enc Try.prog W 0 (fun _ => true) true n 79 cs = some x) : ∃ z, RCab W z cs := by
  obtain ⟨y0, y1, y2, y3, m, _, _, h0, h1, h2, h3⟩ := trod_struct4 Try.underlying79 h
  obtain ⟨a, b, c, d, rfl⟩ := list4 hl
  simp only [Try.cellsStr, Try.cellsInt, Try.cellsBool] at h0 h1 h2 h3
  obtain ⟨s, e0, _, hs⟩ := DataW.trod_string Try.underlying9 h0
  obtain ⟨p, e1, _⟩ := DataW.trod_int Try.underlying3 h1
  obtain ⟨q, e2, _⟩ := DataW.trod_int Try.underlying3 h2
  obtain ⟨r, e3, _⟩ := DataW.trod_bool Try.underlying4 h3
  simp at e0 e1 e2 e3
  subst e0 e1 e2 e3
  exact ⟨(s, p, q, r), rfl, hs⟩

theorem open_ship {base : Nat} {v : Value} {d : DataW H} {ps : List MemPlace} (hv : Value.okWide Try.prog W .any base 45 v) (h : DataW.Trod enc Try.prog W 0 (fun _ => true) true 45 v d ps) :
    ∃ legs souls cao bao cc bc cs bs, v = .agg #[.int .i64 legs, .int .i64 souls, .slice cao cs.length cc, .slice bao bs.length bc] ∧ ShipAt W cao bao cc bc cs bs := by
  obtain ⟨v0, v1, v2, v3, y0, y1, y2, y3, m, rfl, _, _, h0, h1, h2, h3⟩ := open_agg4 Try.underlying45 (by kernel_rfl) Try.cellsShip hv h
  obtain ⟨a, e0, _⟩ := DataW.trod_int Try.underlying3 h0
  obtain ⟨b, e1, _⟩ := DataW.trod_int Try.underlying3 h1
  obtain ⟨cao, cc, cs, e2, hc⟩ := open_sl (size := 2) (R := RCat) Try.underlying42 Try.cellsCat (by omega) (fun n cs' y hl h => open_cat hl h) h2
  obtain ⟨bao, bc, bs, e3, hb⟩ := open_sl (size := 4) (R := RCab) Try.underlying43 Try.cellsCab (by omega) (fun n cs' y hl h => open_cab hl h) h3
  simp at e0 e1 e2 e3
  subst e0 e1 e2 e3
  exact ⟨a, b, cao, bao, cc, bc, cs, bs, rfl, hc, hb⟩
end

end Go.Proofs.Ytnadhpemmehedaa
