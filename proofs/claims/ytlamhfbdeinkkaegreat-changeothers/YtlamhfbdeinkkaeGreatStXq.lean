/- One element of a slice of the call's own is stored. -/
import Derived.Test.YtlamhfbdeinkkaeGreatStVq
import Derived.Laws.CopyRow
import Derived.Laws.IdiomCopy
import Derived.Test.YtlamhfbdeinkkaeGreatSeAq
import Derived.Lib.AppendZerosOnto
import Derived.Deep.RegionHeld3
import Derived.Test.YtlamhfbdeinkkaeGreatStQq
import Derived.BigRegion
import Derived.Test.YtlamhfbdeinkkaeGreatStRq
namespace Go.Proofs.YtlamhfbdeinkkaeGreat.St
open Go.RowKit Bk
set_option linter.unusedSimpArgs false
set_option linter.unusedVariables false
set_option maxRecDepth 10000

/-- Cells stored one by one, as a row that is laid anew. -/
theorem setCells_row (w : World) (g o : Nat) (t : TypeId) (vs : List Value) (cur : Array Value) (hg : w.heap[g]? = some (.cells cur t (0, 0))) (hl : o + vs.length ≤ cur.size) (h1 : ∀ v ∈ vs, v.oneCell' = true) :
    w.setCells g o vs = w.setRow g (cur.toList.take o ++ vs ++ cur.toList.drop (o + vs.length)).toArray := by
  have hc : ∀ j, j < vs.length → (w.cell? ⟨g, o + 0 + j, none⟩).isSome = true := fun j hj => by
    rw [cell_of_row w g (o + 0 + j) cur t (0, 0) hg, Array.getElem?_eq_getElem (by omega)]
    rfl
  have hf : ∀ j, j < vs.length → w.frozen? ⟨g, o + 0 + j, none⟩ = false := fun j hj => by simp [World.frozen?, hg]
  have e1 := run_storeCells_cells (P := Tryz.prog) g o vs 0 w hc hf h1
  have e2 := run_storeCells_at (P := Tryz.prog) g o t vs 0 cur w hg (by omega) h1
  rw [e1] at e2
  simp only [Nat.add_zero] at e2
  injection e2

section
variable {α : Type} {cells : α → List Value} {size : Nat} {e : TypeId}
theorem flat_set (hc : ∀ x, (cells x).length = size) (l : List α) (k : Nat) (y : α) (hk : k < l.length) : (l.set k y).flatMap cells = (l.flatMap cells).take (k * size) ++ cells y ++ (l.flatMap cells).drop (k * size + size) := by
  induction l generalizing k with
  | nil => simp at hk
  | cons x t ih =>
    cases k with
    | zero =>
      have := hc x
      simp [List.flatMap_cons, List.drop_append, this]
    | succ k =>
      have hx := hc x
      rw [List.set_cons_succ, List.flatMap_cons, List.flatMap_cons, ih k (by simpa using hk)]
      have em : (k + 1) * size = size + k * size := by rw [Nat.succ_mul]; omega
      rw [em]
      generalize k * size = m
      generalize t.flatMap cells = F
      have e1 : (cells x ++ F).take (size + m) = cells x ++ F.take m := by
        rw [List.take_append, List.take_of_length_le (by omega), hx]
        congr 2
        omega
      have e2 : (cells x ++ F).drop (size + m + size) = F.drop (m + size) := by
        rw [List.drop_append, List.drop_of_length_le (by omega), hx, List.nil_append]
        congr 1
        omega
      rw [e1, e2]
      simp [List.append_assoc]
theorem take_put {A B C : List Value} {o n M : Nat} (hA : A.length = M) (ho : o + n ≤ M) (hB : B.length = n) (hC : M ≤ C.length) (hAC : A = C.take M) : ((C.take o ++ B) ++ C.drop (o + n)).take M = A.take o ++ B ++ A.drop (o + n) := by
  subst hAC
  have h1 : (C.take o).length = o := by rw [List.length_take]; omega
  rw [List.take_append, List.take_of_length_le (by rw [List.length_append]; omega), List.length_append, h1, hB, List.take_take, Nat.min_eq_left (by omega), List.drop_take]
/-- A store of one element. -/
theorem own_put (hc : ∀ x, (cells x).length = size) (h1c : ∀ x, ∀ u ∈ cells x, u.oneCell' = true) {w : World} {base g cap : Nat} {l : List α} (h : OwnC cells size e w base (.slice (some ⟨g, 0, none⟩) l.length cap) l) (k : Nat) (y : α) (hk : k < l.length) :
    OwnC cells size e (w.setCells g (k * size) (cells y)) base (.slice (some ⟨g, 0, none⟩) (l.set k y).length cap) (l.set k y) ∧ w.grownBy (w.setCells g (k * size) (cells y)) (some g) := by
  obtain ⟨hx, h2⟩ := h
  rcases h2 with ⟨h3, _⟩ | ⟨g', cap', cur, hv, hgb, hh, hn, hcm, hsz, htk⟩
  · simp at h3
  · simp only [Value.slice.injEq, Option.some.injEq, Addr.mk.injEq, and_true] at hv
    obtain ⟨rfl, _, rfl⟩ := hv
    have hkm : k * size + size ≤ l.length * size := by
      have := Nat.mul_le_mul_right size (show k + 1 ≤ l.length by omega)
      rw [Nat.succ_mul] at this
      exact this
    have hlm : l.length * size ≤ cap * size := Nat.mul_le_mul_right size hn
    have er := setCells_row w g (k * size) e (cells y) cur hh (by rw [hc, hsz]; omega) (h1c y)
    rw [er]
    refine ⟨⟨?_, Or.inr ⟨g, cap, _, by simp, hgb, setRow_heap w g cur _ e (0, 0) hh, by simpa using hn, hcm, ?_, ?_⟩⟩, ?_⟩
    · rw [flatC_len hc]
    · simp only [List.size_toArray, List.length_append, List.length_take, List.length_drop, Array.length_toList, hc, hsz]
      omega
    · rw [List.length_set, flat_set hc l k y hk]
      have hcl : cur.toList.length = cap * size := by simpa using hsz
      rw [hc]
      exact take_put (flatC_len hc l) hkm (hc y) (by omega) htk.symm
    · exact ⟨rfl, rfl, rfl, by simp, fun i hi hne => setRow_other w g i _ (fun e => hne (by rw [e]))⟩
end

end Go.Proofs.YtlamhfbdeinkkaeGreat.St
namespace Go.Proofs.YtlamhfbdeinkkaeGreat.St
open Go.RowKit Bk
set_option linter.unusedSimpArgs false
set_option linter.unusedVariables false
set_option maxRecDepth 10000

abbrev W.sel (w : World) (x : Sail) (a : SailA) : World :=
  w.alloc (.cells #[.int .i64 x.s.legs, .int .i64 x.s.souls, .slice a.v.cao x.s.cs.length a.v.cc, .slice a.v.bao x.s.bs.length a.v.bc, .slice a.lo x.L.length a.lc, .int .i64 x.al, .int .i64 x.th, .slice a.bo x.B.length a.bc, .int .i64 x.dn, .int .i64 x.day, .int .i64 x.lvs, .slice a.ao x.bks.length a.cap, .bool x.cl] 88)
def P.sold (b : Bkg) (k : Int) : Bool := decide (b.kind = k) && decide (b.state ≠ 3)
/-- Where a number belongs. -/
structure PlaceIs (l : List Bkg) (t : Int) (k : Nat) : Prop where
  le : k ≤ l.length
  lo : ∀ y ∈ l.take k, y.id < t
  hi : ∀ y ∈ l.drop k, t ≤ y.id
theorem PlaceIs.found {l : List Bkg} {t : Int} {k : Nat} (h : PlaceIs l t k) (hr : l.Pairwise (fun a b => a.id < b.id)) : P.isIn t l = (match l[k]? with | some y => decide (y.id = t) | none => false) := by
  have e : P.isIn t l = (P.isIn t (l.take k) || P.isIn t (l.drop k)) := by
    rw [P.isIn, P.isIn, P.isIn, ← List.any_append, List.take_append_drop]
  have e1 : P.isIn t (l.take k) = false := List.any_eq_false.2 (fun y hy => by have := h.lo y hy; simp; omega)
  rw [e, e1, Bool.false_or]
  cases hk : l[k]? with
  | none =>
    have : l.length ≤ k := List.getElem?_eq_none_iff.1 hk
    rw [List.drop_of_length_le this]
    rfl
  | some y =>
    obtain ⟨hlt, rfl⟩ := List.getElem?_eq_some_iff.1 hk
    rw [P.isIn, List.drop_eq_getElem_cons hlt, List.any_cons]
    have hd : (l.drop (k + 1)).any (fun y => decide (y.id = t)) = false := List.any_eq_false.2 (fun z hz => by
      have h1 := h.hi l[k] (by have e := List.drop_eq_getElem_cons hlt; rw [e]; exact List.mem_cons_self)
      have h2 : l[k].id < z.id := by
        rw [← List.take_append_drop k l, List.pairwise_append, List.drop_eq_getElem_cons hlt, List.pairwise_cons] at hr
        exact hr.2.1.1 z hz
      simp
      omega)
    rw [hd, Bool.or_false]

end Go.Proofs.YtlamhfbdeinkkaeGreat.St
namespace Go.Proofs.YtlamhfbdeinkkaeGreat.St
open Go.RowKit Bk
set_option linter.unusedSimpArgs false
set_option linter.unusedVariables false
set_option maxRecDepth 10000

theorem own_of_row {w : World} {g n cap base : Nat} {l : List BkV} {B : List Value} (hr : w.heap[g]? = some (.cells (l.flatMap cellsV ++ B).toArray 37 (0, 0))) (hn : l.length = n) (hcap : n ≤ cap) (hmax : cap ≤ maxLen) (hsz : n * 11 + B.length = cap * 11) (hb : base ≤ g) : OwnB w base (.slice (some ⟨g, 0, none⟩) n cap) l := by
  subst hn
  have hfl : (l.flatMap cellsV).length = l.length * 11 := flatC_len cellsV_len l
  refine ⟨hfl, .inr ⟨g, cap, _, rfl, hb, hr, hcap, hmax, by simp [hfl]; omega, ?_⟩⟩
  show (l.flatMap cellsV ++ B).take _ = _
  rw [← hfl, List.take_left]

end Go.Proofs.YtlamhfbdeinkkaeGreat.St
namespace Go.Proofs.YtlamhfbdeinkkaeGreat.St
open Go.RowKit Bk
set_option linter.unusedSimpArgs false
set_option linter.unusedVariables false
set_option maxRecDepth 10000

/-- What lies in old blocks, behind whatever keeps them. -/
theorem SlAt.same {α : Type} {R : World → α → List Value → Prop} {size : Nat} (hR : ∀ w w' x cs, R w x cs → R w' x cs) {w U : World} {ao : Option Addr} {cap : Nat} {l : List α} (h : SlAt R size w ao cap l) (hs : ∀ b, b < w.heap.size → U.heap[b]? = w.heap[b]?) (hz : w.heap.size ≤ U.heap.size) : SlAt R size U ao cap l := by
  refine ⟨h.le, h.max, h.nil, fun h0 => ?_⟩
  obtain ⟨b, off, rfl, hlt, hc⟩ := h.cells h0
  refine ⟨b, off, rfl, Nat.lt_of_lt_of_le hlt hz, fun i hi => ?_⟩
  obtain ⟨cs, h1, h2, h3⟩ := hc i hi
  refine ⟨cs, hR _ _ _ _ h1, h2, fun j u hj => ?_⟩
  have h4 := h3 j u hj
  simp only [World.cell?] at h4 ⊢
  rw [hs b hlt]
  exact h4
theorem ents_own {U : World} {base : Nat} {ao : Option Addr} {cap : Nat} {l : List Fo.Ent} (h : Fo.OwnN U base (.slice ao l.length cap) l) : Fo.EntsAt U ao cap l := own_at Fo.cellsN_len h

end Go.Proofs.YtlamhfbdeinkkaeGreat.St
namespace Go.Proofs.YtlamhfbdeinkkaeGreat.St
open Go.RowKit Bk
set_option linter.unusedSimpArgs false
set_option linter.unusedVariables false
set_option maxRecDepth 10000

/-- The world of 'sell' ahead of its first statement. -/
abbrev W.sell (w : World) (x : Sail) (a : SailA) (b : Bkg) (fo : Option Addr) (fc : Nat) : World := (W.bk (W.sel w x a) b fo fc).alloc O.zs

end Go.Proofs.YtlamhfbdeinkkaeGreat.St
namespace Go.Proofs.YtlamhfbdeinkkaeGreat.St
open Go.RowKit Bk
set_option linter.unusedSimpArgs false
set_option linter.unusedVariables false
set_option maxRecDepth 10000

end Go.Proofs.YtlamhfbdeinkkaeGreat.St
namespace Go.Proofs.YtlamhfbdeinkkaeGreat.St
open Go.RowKit Bk
set_option linter.unusedSimpArgs false
set_option linter.unusedVariables false
set_option maxRecDepth 10000

end Go.Proofs.YtlamhfbdeinkkaeGreat.St
