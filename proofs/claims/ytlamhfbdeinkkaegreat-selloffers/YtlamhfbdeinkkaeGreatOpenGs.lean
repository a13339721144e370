/- How a sailing that is handed in reads. -/
import Derived.Test.YtlamhfbdeinkkaeGreatStAs
import Derived.Test.YtlamhfbdeinkkaeGreatOpenFs
namespace Go.Proofs.YtlamhfbdeinkkaeGreat.Bk
open Go.ChangeShapes Go.WideShapes Go.ChangeAt Go.RowKit Go.Deep Go.Joins St
set_option linter.unusedSimpArgs false
set_option linter.unusedVariables false
set_option maxRecDepth 10000

theorem Tryz.cellsFares : Tryz.prog.cellsOf 29 = 5 := by kernel_rfl
theorem Tryz.cellsBand : Tryz.prog.cellsOf 143 = 2 := by kernel_rfl
theorem Tryz.cellsRows : Tryz.prog.cellsOf 26 = 1 := by kernel_rfl
theorem Tryz.cellsBands : Tryz.prog.cellsOf 27 = 1 := by kernel_rfl
theorem Tryz.cellsCats : Tryz.prog.cellsOf 22 = 1 := by kernel_rfl
theorem Tryz.cellsCabs : Tryz.prog.cellsOf 23 = 1 := by kernel_rfl
theorem Tryz.cellsBks : Tryz.prog.cellsOf 30 = 1 := by kernel_rfl
theorem Tryz.cellsSailing : Tryz.prog.cellsOf 32 = 13 := by kernel_rfl
theorem list13 {α : Type} {l : List α} (h : l.length = 13) : ∃ a0 a1 a2 a3 a4 a5 a6 a7 a8 a9 a10 a11 a12, l = [a0, a1, a2, a3, a4, a5, a6, a7, a8, a9, a10, a11, a12] := by
  match l, h with
  | [a0, a1, a2, a3, a4, a5, a6, a7, a8, a9, a10, a11, a12], _ => exact ⟨a0, a1, a2, a3, a4, a5, a6, a7, a8, a9, a10, a11, a12, rfl⟩
def cellsSail (x : Sail) (a : SailA) : List Value :=
  [.int .i64 x.s.legs, .int .i64 x.s.souls, .slice a.v.cao x.s.cs.length a.v.cc, .slice a.v.bao x.s.bs.length a.v.bc, .slice a.lo x.L.length a.lc, .int .i64 x.al, .int .i64 x.th, .slice a.bo x.B.length a.bc, .int .i64 x.dn, .int .i64 x.day, .int .i64 x.lvs, .slice a.ao x.bks.length a.cap, .bool x.cl]

section
variable {H : Type} {enc : TypeId × Value → H} {W : World}
theorem open_band {n : Nat} {cs : List Value} {x : DataW H × List MemPlace} (hl : cs.length = 2) (h : DataW.trod enc Tryz.prog W 0 (fun _ => true) true n 143 cs = some x) : ∃ z, Fo.RPair W z cs := by
  obtain ⟨y0, y1, m, _, _, h0, h1⟩ := trod_struct2 Tryz.underlying143 h
  obtain ⟨a, b, rfl⟩ := list2 hl
  simp only [Tryz.cellsInt] at h0 h1
  obtain ⟨p, e0, _⟩ := DataW.trod_int Tryz.underlying3 h0
  obtain ⟨q, e1, _⟩ := DataW.trod_int Tryz.underlying3 h1
  simp at e0 e1
  subst e0 e1
  exact ⟨(p, q), rfl⟩
theorem open_cells {n : Nat} {cs : List Value} {z : DataW H × List MemPlace} (hl : cs.length = 13) (h : DataW.trod enc Tryz.prog W 0 (fun _ => true) true n 32 cs = some z) : ∃ x a, cs = cellsSail x a ∧ SailAt W x a := by
  obtain ⟨n, hx⟩ := open_flds Tryz.underlying32 h
  obtain ⟨y0, h0⟩ := hx 0 25 0 4 rfl Tryz.cellsShip
  obtain ⟨y1, h1⟩ := hx 1 29 4 5 rfl Tryz.cellsFares
  obtain ⟨y2, h2⟩ := hx 2 3 9 1 rfl Tryz.cellsInt
  obtain ⟨y3, h3⟩ := hx 3 3 10 1 rfl Tryz.cellsInt
  obtain ⟨y4, h4⟩ := hx 4 30 11 1 rfl Tryz.cellsBks
  obtain ⟨y5, h5⟩ := hx 5 4 12 1 rfl Tryz.cellsBool
  obtain ⟨a0, a1, a2, a3, a4, a5, a6, a7, a8, a9, a10, a11, a12, rfl⟩ := list13 hl
  obtain ⟨n0, g⟩ := open_flds Tryz.underlying25 h0
  obtain ⟨_, g0⟩ := g 0 3 0 1 rfl Tryz.cellsInt
  obtain ⟨_, g1⟩ := g 1 3 1 1 rfl Tryz.cellsInt
  obtain ⟨_, g2⟩ := g 2 22 2 1 rfl Tryz.cellsCats
  obtain ⟨_, g3⟩ := g 3 23 3 1 rfl Tryz.cellsCabs
  obtain ⟨n1, f⟩ := open_flds Tryz.underlying29 h1
  obtain ⟨_, f0⟩ := f 0 26 0 1 rfl Tryz.cellsRows
  obtain ⟨_, f1⟩ := f 1 3 1 1 rfl Tryz.cellsInt
  obtain ⟨_, f2⟩ := f 2 3 2 1 rfl Tryz.cellsInt
  obtain ⟨_, f3⟩ := f 3 27 3 1 rfl Tryz.cellsBands
  obtain ⟨_, f4⟩ := f 4 3 4 1 rfl Tryz.cellsInt
  obtain ⟨legs, e0, _⟩ := DataW.trod_int Tryz.underlying3 g0
  obtain ⟨souls, e1, _⟩ := DataW.trod_int Tryz.underlying3 g1
  obtain ⟨cao, cc, cs, e2, hc⟩ := open_sl (size := 2) (R := Sh.RCat) Tryz.underlying22 Tryz.cellsCat (by omega) (fun n cs' y hl h => open_cat hl h) g2
  obtain ⟨bao, bc, bs, e3, hb⟩ := open_sl (size := 4) (R := Sh.RCab) Tryz.underlying23 Tryz.cellsCab (by omega) (fun n cs' y hl h => open_cab hl h) g3
  obtain ⟨lo, lc, L, e4, hL⟩ := open_sl (size := 1) (R := Fo.RRow) Tryz.underlying26 Tryz.cellsInts (by omega) (fun n cs' y hl h => by
    obtain ⟨ao, cap, l, e, hi⟩ := open_ints h
    exact ⟨l, ao, cap, e, hi⟩) f0
  obtain ⟨al, e5, _⟩ := DataW.trod_int Tryz.underlying3 f1
  obtain ⟨th, e6, _⟩ := DataW.trod_int Tryz.underlying3 f2
  obtain ⟨bo, bc', B, e7, hB⟩ := open_sl (size := 2) (R := Fo.RPair) Tryz.underlying27 Tryz.cellsBand (by omega) (fun n cs' y hl h => open_band hl h) f3
  obtain ⟨dn, e8, _⟩ := DataW.trod_int Tryz.underlying3 f4
  obtain ⟨day, e9, _⟩ := DataW.trod_int Tryz.underlying3 h2
  obtain ⟨lvs, e10, _⟩ := DataW.trod_int Tryz.underlying3 h3
  haveI : Inhabited Bkg := ⟨⟨0, 0, 0, 0, false, 0, 0, 0, 0, 0, []⟩⟩
  obtain ⟨ao, cap, l, e11, hl2⟩ := open_sl (R := RBk) (size := 11) Tryz.underlying30 Tryz.cellsBk (by decide) (fun n cs' y hlen hy => open_bk hlen hy) h4
  obtain ⟨cl, e12, _⟩ := DataW.trod_bool Tryz.underlying4 h5
  simp at e0 e1 e2 e3 e4 e5 e6 e7 e8 e9 e10 e11 e12
  subst e0 e1 e2 e3 e4 e5 e6 e7 e8 e9 e10 e11 e12
  exact ⟨⟨⟨legs, souls, cs, bs⟩, L, al, th, B, dn, day, lvs, l, cl⟩, ⟨⟨cao, bao, cc, bc⟩, lo, bo, lc, bc', ao, cap⟩, rfl, ⟨hc, hb⟩, ⟨hL, hB⟩, hl2⟩
theorem open_sailing {base : Nat} {v : Value} {d : DataW H} {ps : List MemPlace} (hv : Value.okWide Tryz.prog W .any base 32 v) (h : DataW.Trod enc Tryz.prog W 0 (fun _ => true) true 32 v d ps) :
    ∃ x a, v = V.sail x a ∧ SailAt W x a := by
  obtain ⟨cs, rfl, hsz⟩ := okWide_struct Tryz.underlying32 hv
  obtain ⟨fuel, hf⟩ := h
  obtain ⟨x, a, hz, he⟩ := open_cells (by simpa [Value.cells] using hsz.trans Tryz.cellsSailing) hf
  refine ⟨x, a, ?_, he⟩
  have e : cs.toList = cellsSail x a := by simpa [Value.cells] using hz
  rw [show cs = (cellsSail x a).toArray by rw [← e]]
  rfl
end

end Go.Proofs.YtlamhfbdeinkkaeGreat.Bk
