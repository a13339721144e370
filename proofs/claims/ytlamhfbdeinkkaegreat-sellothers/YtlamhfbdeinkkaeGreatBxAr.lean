/- Sailings in blocks of their own: stored whole, answered whole. -/
import Derived.Test.YtlamhfbdeinkkaeGreatStAr
import Derived.Laws.CopyRow
namespace Go.Proofs.YtlamhfbdeinkkaeGreat.St
open Go.RowKit Bk
set_option linter.unusedSimpArgs false
set_option linter.unusedVariables false
set_option maxRecDepth 10000

abbrev C.sail (x : Sail) (a : SailA) : Array Value :=
  #[.int .i64 x.s.legs, .int .i64 x.s.souls, .slice a.v.cao x.s.cs.length a.v.cc, .slice a.v.bao x.s.bs.length a.v.bc, .slice a.lo x.L.length a.lc, .int .i64 x.al, .int .i64 x.th, .slice a.bo x.B.length a.bc, .int .i64 x.dn, .int .i64 x.day, .int .i64 x.lvs, .slice a.ao x.bks.length a.cap, .bool x.cl]
theorem all_one {cs : List Value} (h : cs.all (·.oneCell') = true) : cs.toArray.all (·.oneCell') = true := by
  rw [Array.all_eq_true_iff_forall_mem]
  rw [List.all_eq_true] at h
  exact fun v hv => h v (by simpa using hv)
theorem sail_one (x : Sail) (a : SailA) : (C.sail x a).all (·.oneCell') = true := all_one (cs := [.int .i64 x.s.legs, .int .i64 x.s.souls, .slice a.v.cao x.s.cs.length a.v.cc, .slice a.v.bao x.s.bs.length a.v.bc, .slice a.lo x.L.length a.lc, .int .i64 x.al, .int .i64 x.th, .slice a.bo x.B.length a.bc, .int .i64 x.dn, .int .i64 x.day, .int .i64 x.lvs, .slice a.ao x.bks.length a.cap, .bool x.cl]) rfl
def rowB : TypeDesc → Bool
  | .struct _ => true
  | .array _ _ => true
  | _ => false
/-- A whole block. -/
def RowIs (w : World) (g : Nat) (cs : Array Value) : Prop := ∃ t, w.heap[g]? = some (.cells cs t (0, 0))
abbrev SRow (w : World) (g : Nat) (x : Sail) (a : SailA) : Prop := RowIs w g (C.sail x a)
theorem RowIs.lt {w : World} {g : Nat} {cs : Array Value} (h : RowIs w g cs) : g < w.heap.size := by
  obtain ⟨t, h⟩ := h
  exact (Array.getElem?_eq_some_iff.1 h).1
theorem RowIs.new (w : World) (cs : Array Value) (t : TypeId) : RowIs (w.alloc (.cells cs t)) w.heap.size cs := ⟨t, heap_alloc_new w _⟩
theorem RowIs.below {w w' : World} {g : Nat} {cs : Array Value} (h : RowIs w g cs) (hb : Below w.heap.size w w') : RowIs w' g cs := by
  have hl := h.lt
  obtain ⟨t, h⟩ := h
  exact ⟨t, by rw [hb.block g hl]; exact h⟩
theorem RowIs.low {w w' : World} {N g : Nat} {cs : Array Value} (h : RowIs w g cs) (hb : Below N w w') (hg : g < N) : RowIs w' g cs := by
  obtain ⟨t, h⟩ := h
  exact ⟨t, by rw [hb.block g hg]; exact h⟩
theorem RowIs.gr {w w' : World} {g : Nat} {cs : Array Value} {row : Option Nat} (h : RowIs w g cs) (hg : w.grownBy w' row) (hr : some g ≠ row) : RowIs w' g cs := by
  have hl := h.lt
  obtain ⟨t, h⟩ := h
  exact ⟨t, by rw [hg.block g hl hr]; exact h⟩
theorem RowIs.cell {w : World} {g : Nat} {cs : Array Value} (h : RowIs w g cs) (j : Nat) : w.cell? ⟨g, j, none⟩ = cs[j]? := by
  obtain ⟨t, h⟩ := h
  exact cell_of_row w g j cs t (0, 0) h
theorem RowIs.free {w : World} {g : Nat} {cs : Array Value} (h : RowIs w g cs) (j : Nat) : w.frozen? ⟨g, j, none⟩ = false := by
  obtain ⟨t, h⟩ := h
  simp [World.frozen?, h]
theorem SRow.box {w : World} {g : Nat} {x : Sail} {a : SailA} (h : SRow w g x a) : SBox w g x a :=
  ⟨h.cell 0, h.cell 1, h.cell 2, h.cell 3, h.cell 4, h.cell 5, h.cell 6, h.cell 7, h.cell 8, h.cell 9, h.cell 10, h.cell 11, h.cell 12⟩
theorem below_gr {B g : Nat} {w W0 w' : World} (h : Below B w W0) (hB : B ≤ W0.heap.size) (hg : W0.grownBy w' (some g)) (hb : B ≤ g) : Below B w w' :=
  h.grown hg hB (fun j hj => by cases hj; exact hb)

/-- A store of a whole value. -/
theorem wpList_stC {ops : Array Oper} {rest : List Oper} {o : Oper} {act : Act} {Q : Exit → Act → World → Prop} {w : World} (hgd : o.guard = none) (ty : TypeId) (x y : Operand) (ho : o.op = .store ty x y)
    (g : Nat) (old cells : Array Value) (hty : (Tryz.prog.info? ty).map (·.size) = some cells.size) (hx : act.eval x = .pointer (some ⟨g, 0, none⟩)) (hy : act.eval y = .agg cells) (hb : RowIs w g old) (hsz : old.size = cells.size) (h1 : cells.all (·.oneCell') = true)
    (h : ∀ w', RowIs w' g cells → w.grownBy w' (some g) → wpList Tryz.prog ops Q rest (act.put o.dst undef) w') : wpList Tryz.prog ops Q (o :: rest) act w := by
  obtain ⟨t, hg⟩ := hb
  refine wpList_store_row hgd ty x y ho g cells hx hy t old hg hty hsz h1 (h _ ⟨t, setRow_heap w g old _ t (0, 0) hg⟩ ?_)
  exact ⟨rfl, rfl, rfl, by simp, fun i hi hne => setRow_other w g i _ (fun e => hne (by rw [e]))⟩
theorem Tryz.sizeSail : (Tryz.prog.info? 32).map (·.size) = some 13 := by kernel_rfl
theorem Tryz.sizeBg : (Tryz.prog.info? 37).map (·.size) = some 11 := by kernel_rfl

/-- What is answered out of a block. -/
theorem res1 {fn : Func} {p : Tmp} {ty : TypeId} (h : fn.results = #[.cell p ty]) {tmps : Array Value} {w : World} {g : Nat} {cs : Array Value} (hb : RowIs w g cs) (d : TypeDesc) (hp : tmps.getD p undef = .pointer (some ⟨g, 0, none⟩))
    (hu : Tryz.prog.underlying ty = some d) (hd : rowB d = true) (hi : (Tryz.prog.info? ty).map (·.size) = some cs.size) : (results fn tmps).run Tryz.prog w = .ok (.agg cs) w := by
  obtain ⟨t, hg⟩ := hb
  exact results_cell_row h tmps w g t cs (0, 0) d hp hg hu (by cases d <;> first | rfl | exact hd) hi
theorem res2 {fn : Func} {p q : Tmp} {ty : TypeId} (h : fn.results = #[.cell p ty, .tmp q]) {tmps : Array Value} {w : World} {g : Nat} {cs : Array Value} {v : Value} (hb : RowIs w g cs) (d : TypeDesc) (hp : tmps.getD p undef = .pointer (some ⟨g, 0, none⟩)) (hq : tmps.getD q undef = v)
    (hu : Tryz.prog.underlying ty = some d) (hd : rowB d = true) (hi : (Tryz.prog.info? ty).map (·.size) = some cs.size) : (results fn tmps).run Tryz.prog w = .ok (.tuple #[.agg cs, v]) w := by
  obtain ⟨t, hg⟩ := hb
  have hp' : tmps[p]?.getD undef = .pointer (some ⟨g, 0, none⟩) := by simpa using hp
  have hq' : tmps[q]?.getD undef = v := by simpa using hq
  simp [results, h, hp', hq', asAddr, run_loadVar_row w g t ty cs (0, 0) d hg hu (by cases d <;> first | rfl | exact hd) hi]

end Go.Proofs.YtlamhfbdeinkkaeGreat.St
