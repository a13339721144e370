/- Structs in blocks of their own: stored whole, loaded whole, answered whole. -/
import Derived.Test.YtfiaeokdcbmedafDoorCdA
import Derived.Laws.CopyRow
namespace Go.Proofs.YtfiaeokdcbmedafDoor
open Go.RowKit
set_option linter.unusedSimpArgs false
set_option linter.unusedVariables false
set_option maxRecDepth 10000

theorem all_one {cs : List Value} (h : cs.all (·.oneCell') = true) : cs.toArray.all (·.oneCell') = true := by
  rw [Array.all_eq_true_iff_forall_mem]
  rw [List.all_eq_true] at h
  exact fun v hv => h v (by simpa using hv)
def rowB : TypeDesc → Bool
  | .struct _ => true
  | .array _ _ => true
  | _ => false
/-- A whole block. -/
def RowIs (w : World) (g : Nat) (cs : Array Value) : Prop := ∃ t, w.heap[g]? = some (.cells cs t (0, 0))
theorem RowIs.lt {w : World} {g : Nat} {cs : Array Value} (h : RowIs w g cs) : g < w.heap.size := by
  obtain ⟨t, h⟩ := h
  exact (Array.getElem?_eq_some_iff.1 h).1
theorem RowIs.new (w : World) (cs : Array Value) (t : TypeId) : RowIs (w.alloc (.cells cs t)) w.heap.size cs := ⟨t, heap_alloc_new w _⟩
theorem RowIs.below {w w' : World} {g : Nat} {cs : Array Value} (h : RowIs w g cs) (hb : Below w.heap.size w w') : RowIs w' g cs := by
  have hl := h.lt
  obtain ⟨t, h⟩ := h
  exact ⟨t, by rw [hb.block g hl]; exact h⟩
theorem RowIs.low {w w' : World} {N g : Nat} {cs : Array Value} (h : RowIs w g cs) (hb : Below N w w') (hg : g < N) : RowIs w' g cs := by
  obtain ⟨t, h⟩ := h
  exact ⟨t, by rw [hb.block g hg]; exact h⟩
theorem RowIs.gr {w w' : World} {g : Nat} {cs : Array Value} {row : Option Nat} (h : RowIs w g cs) (hg : w.grownBy w' row) (hr : some g ≠ row) : RowIs w' g cs := by
  have hl := h.lt
  obtain ⟨t, h⟩ := h
  exact ⟨t, by rw [hg.block g hl hr]; exact h⟩
theorem RowIs.set {w : World} {g b o : Nat} {cs : Array Value} {v : Value} (h : RowIs w g cs) (hb : g ≠ b) : RowIs (w.setCell ⟨b, o, none⟩ v) g cs := by
  obtain ⟨t, h⟩ := h
  exact ⟨t, by rw [Go.Deep.blk_setCell_other _ _ _ _ hb]; exact h⟩
theorem RowIs.cell {w : World} {g : Nat} {cs : Array Value} (h : RowIs w g cs) (j : Nat) : w.cell? ⟨g, j, none⟩ = cs[j]? := by
  obtain ⟨t, h⟩ := h
  exact cell_of_row w g j cs t (0, 0) h
theorem RowIs.free {w : World} {g : Nat} {cs : Array Value} (h : RowIs w g cs) (j : Nat) : w.frozen? ⟨g, j, none⟩ = false := by
  obtain ⟨t, h⟩ := h
  simp [World.frozen?, h]
theorem below_gr {B g : Nat} {w W0 w' : World} (h : Below B w W0) (hB : B ≤ W0.heap.size) (hg : W0.grownBy w' (some g)) (hb : B ≤ g) : Below B w w' :=
  h.grown hg hB (fun j hj => by cases hj; exact hb)

/-- A store of a whole value. -/
theorem wpList_stC {ops : Array Oper} {rest : List Oper} {o : Oper} {act : Act} {Q : Exit → Act → World → Prop} {w : World} (hgd : o.guard = none) (ty : TypeId) (x y : Operand) (ho : o.op = .store ty x y)
    (g : Nat) (old cells : Array Value) (hty : (Tryd.prog.info? ty).map (·.size) = some cells.size) (hx : act.eval x = .pointer (some ⟨g, 0, none⟩)) (hy : act.eval y = .agg cells) (hb : RowIs w g old) (hsz : old.size = cells.size) (h1 : cells.all (·.oneCell') = true)
    (h : ∀ w', RowIs w' g cells → w.grownBy w' (some g) → wpList Tryd.prog ops Q rest (act.put o.dst undef) w') : wpList Tryd.prog ops Q (o :: rest) act w := by
  obtain ⟨t, hg⟩ := hb
  refine wpList_store_row hgd ty x y ho g cells hx hy t old hg hty hsz h1 (h _ ⟨t, setRow_heap w g old _ t (0, 0) hg⟩ ?_)
  exact ⟨rfl, rfl, rfl, by simp, fun i hi hne => setRow_other w g i _ (fun e => hne (by rw [e]))⟩
/-- A load of a whole value. -/
theorem wpList_ldC {ops : Array Oper} {rest : List Oper} {o : Oper} {act : Act} {Q : Exit → Act → World → Prop} {w : World} (hgd : o.guard = none) (ty : TypeId) (x : Operand) (ho : o.op = .load ty x)
    (g : Nat) (cells : Array Value) (d : TypeDesc) (hu : Tryd.prog.underlying ty = some d) (hd : rowB d = true) (hty : (Tryd.prog.info? ty).map (·.size) = some cells.size) (hx : act.eval x = .pointer (some ⟨g, 0, none⟩)) (hb : RowIs w g cells)
    (h : wpList Tryd.prog ops Q rest (act.put o.dst (.agg cells)) w) : wpList Tryd.prog ops Q (o :: rest) act w := by
  obtain ⟨t, hg⟩ := hb
  exact wpList_load_row hgd ty x ho g hx t cells (0, 0) d hg hu (by cases d <;> first | rfl | exact hd) hty h

/-- What is answered out of a block. -/
theorem res1 {fn : Func} {p : Tmp} {ty : TypeId} (h : fn.results = #[.cell p ty]) {tmps : Array Value} {w : World} {g : Nat} {cs : Array Value} (hb : RowIs w g cs) (d : TypeDesc) (hp : tmps.getD p undef = .pointer (some ⟨g, 0, none⟩))
    (hu : Tryd.prog.underlying ty = some d) (hd : rowB d = true) (hi : (Tryd.prog.info? ty).map (·.size) = some cs.size) : (results fn tmps).run Tryd.prog w = .ok (.agg cs) w := by
  obtain ⟨t, hg⟩ := hb
  exact results_cell_row h tmps w g t cs (0, 0) d hp hg hu (by cases d <;> first | rfl | exact hd) hi
theorem res2 {fn : Func} {p q : Tmp} {ty : TypeId} (h : fn.results = #[.cell p ty, .tmp q]) {tmps : Array Value} {w : World} {g : Nat} {cs : Array Value} {v : Value} (hb : RowIs w g cs) (d : TypeDesc) (hp : tmps.getD p undef = .pointer (some ⟨g, 0, none⟩)) (hq : tmps.getD q undef = v)
    (hu : Tryd.prog.underlying ty = some d) (hd : rowB d = true) (hi : (Tryd.prog.info? ty).map (·.size) = some cs.size) : (results fn tmps).run Tryd.prog w = .ok (.tuple #[.agg cs, v]) w := by
  obtain ⟨t, hg⟩ := hb
  have hp' : tmps[p]?.getD undef = .pointer (some ⟨g, 0, none⟩) := by simpa using hp
  have hq' : tmps[q]?.getD undef = v := by simpa using hq
  simp [results, h, hp', hq', asAddr, run_loadVar_row w g t ty cs (0, 0) d hg hu (by cases d <;> first | rfl | exact hd) hi]

theorem Tryd.sizeAsk : (Tryd.prog.info? 25).map (·.size) = some 11 := by kernel_rfl
abbrev C.ask (a : Ask) : Array Value := #[.int .i64 a.number, .int .i64 a.kind, .int .i64 a.id, .int .i64 a.guests, .bool a.level, .int .i64 a.cabin, .int .i64 a.category, .int .i64 a.f, .int .i64 a.t, .int .i64 a.til, .int .i64 a.amount]
def P.zeroA : Ask := ⟨0, 0, 0, 0, false, 0, 0, 0, 0, 0, 0⟩
theorem ask_one (a : Ask) : (C.ask a).all (·.oneCell') = true := all_one (cs := [.int .i64 a.number, .int .i64 a.kind, .int .i64 a.id, .int .i64 a.guests, .bool a.level, .int .i64 a.cabin, .int .i64 a.category, .int .i64 a.f, .int .i64 a.t, .int .i64 a.til, .int .i64 a.amount]) rfl

end Go.Proofs.YtfiaeokdcbmedafDoor
