/- One element of a slice of the call's own is stored. -/
import Derived.Test.YtlamhfbdeinkkaeGreatStSt
import Derived.Laws.CopyRow
import Derived.Laws.IdiomCopy
import Derived.Test.YtlamhfbdeinkkaeGreatOpenFt
import Derived.Test.YtlamhfbdeinkkaeGreatSeLt
import Derived.Test.YtlamhfbdeinkkaeGreatBaCt
import Derived.Test.YtlamhfbdeinkkaeGreatStRt
import Derived.Test.YtlamhfbdeinkkaeGreatStNt
import Derived.Test.YtlamhfbdeinkkaeGreatAnCt
import Derived.Deep.MidRow
import Derived.Lib.AppendZerosOnto
import Derived.Deep.RegionHeld3
import Derived.BigRegion
namespace Go.Proofs.YtlamhfbdeinkkaeGreat.St
open Go.RowKit Bk
set_option linter.unusedSimpArgs false
set_option linter.unusedVariables false
set_option maxRecDepth 10000

/-- Cells stored one by one, as a row that is laid anew. -/
theorem setCells_row (w : World) (g o : Nat) (t : TypeId) (vs : List Value) (cur : Array Value) (hg : w.heap[g]? = some (.cells cur t (0, 0))) (hl : o + vs.length ≤ cur.size) (h1 : ∀ v ∈ vs, v.oneCell' = true) :
    w.setCells g o vs = w.setRow g (cur.toList.take o ++ vs ++ cur.toList.drop (o + vs.length)).toArray := by
  have hc : ∀ j, j < vs.length → (w.cell? ⟨g, o + 0 + j, none⟩).isSome = true := fun j hj => by
    rw [cell_of_row w g (o + 0 + j) cur t (0, 0) hg, Array.getElem?_eq_getElem (by omega)]
    rfl
  have hf : ∀ j, j < vs.length → w.frozen? ⟨g, o + 0 + j, none⟩ = false := fun j hj => by simp [World.frozen?, hg]
  have e1 := run_storeCells_cells (P := Tryz.prog) g o vs 0 w hc hf h1
  have e2 := run_storeCells_at (P := Tryz.prog) g o t vs 0 cur w hg (by omega) h1
  rw [e1] at e2
  simp only [Nat.add_zero] at e2
  injection e2

section
variable {α : Type} {cells : α → List Value} {size : Nat} {e : TypeId}
theorem flat_set (hc : ∀ x, (cells x).length = size) (l : List α) (k : Nat) (y : α) (hk : k < l.length) : (l.set k y).flatMap cells = (l.flatMap cells).take (k * size) ++ cells y ++ (l.flatMap cells).drop (k * size + size) := by
  induction l generalizing k with
  | nil => simp at hk
  | cons x t ih =>
    cases k with
    | zero =>
      have := hc x
      simp [List.flatMap_cons, List.drop_append, this]
    | succ k =>
      have hx := hc x
      rw [List.set_cons_succ, List.flatMap_cons, List.flatMap_cons, ih k (by simpa using hk)]
      have em : (k + 1) * size = size + k * size := by rw [Nat.succ_mul]; omega
      rw [em]
      generalize k * size = m
      generalize t.flatMap cells = F
      have e1 : (cells x ++ F).take (size + m) = cells x ++ F.take m := by
        rw [List.take_append, List.take_of_length_le (by omega), hx]
        congr 2
        omega
      have e2 : (cells x ++ F).drop (size + m + size) = F.drop (m + size) := by
        rw [List.drop_append, List.drop_of_length_le (by omega), hx, List.nil_append]
        congr 1
        omega
      rw [e1, e2]
      simp [List.append_assoc]
theorem take_put {A B C : List Value} {o n M : Nat} (hA : A.length = M) (ho : o + n ≤ M) (hB : B.length = n) (hC : M ≤ C.length) (hAC : A = C.take M) : ((C.take o ++ B) ++ C.drop (o + n)).take M = A.take o ++ B ++ A.drop (o + n) := by
  subst hAC
  have h1 : (C.take o).length = o := by rw [List.length_take]; omega
  rw [List.take_append, List.take_of_length_le (by rw [List.length_append]; omega), List.length_append, h1, hB, List.take_take, Nat.min_eq_left (by omega), List.drop_take]
/-- A store of one element. -/
theorem own_put (hc : ∀ x, (cells x).length = size) (h1c : ∀ x, ∀ u ∈ cells x, u.oneCell' = true) {w : World} {base g cap : Nat} {l : List α} (h : OwnC cells size e w base (.slice (some ⟨g, 0, none⟩) l.length cap) l) (k : Nat) (y : α) (hk : k < l.length) :
    OwnC cells size e (w.setCells g (k * size) (cells y)) base (.slice (some ⟨g, 0, none⟩) (l.set k y).length cap) (l.set k y) ∧ w.grownBy (w.setCells g (k * size) (cells y)) (some g) := by
  obtain ⟨hx, h2⟩ := h
  rcases h2 with ⟨h3, _⟩ | ⟨g', cap', cur, hv, hgb, hh, hn, hcm, hsz, htk⟩
  · simp at h3
  · simp only [Value.slice.injEq, Option.some.injEq, Addr.mk.injEq, and_true] at hv
    obtain ⟨rfl, _, rfl⟩ := hv
    have hkm : k * size + size ≤ l.length * size := by
      have := Nat.mul_le_mul_right size (show k + 1 ≤ l.length by omega)
      rw [Nat.succ_mul] at this
      exact this
    have hlm : l.length * size ≤ cap * size := Nat.mul_le_mul_right size hn
    have er := setCells_row w g (k * size) e (cells y) cur hh (by rw [hc, hsz]; omega) (h1c y)
    rw [er]
    refine ⟨⟨?_, Or.inr ⟨g, cap, _, by simp, hgb, setRow_heap w g cur _ e (0, 0) hh, by simpa using hn, hcm, ?_, ?_⟩⟩, ?_⟩
    · rw [flatC_len hc]
    · simp only [List.size_toArray, List.length_append, List.length_take, List.length_drop, Array.length_toList, hc, hsz]
      omega
    · rw [List.length_set, flat_set hc l k y hk]
      have hcl : cur.toList.length = cap * size := by simpa using hsz
      rw [hc]
      exact take_put (flatC_len hc l) hkm (hc y) (by omega) htk.symm
    · exact ⟨rfl, rfl, rfl, by simp, fun i hi hne => setRow_other w g i _ (fun e => hne (by rw [e]))⟩
end

end Go.Proofs.YtlamhfbdeinkkaeGreat.St
namespace Go.Proofs.YtlamhfbdeinkkaeGreat.St
open Go.RowKit Bk
set_option linter.unusedSimpArgs false
set_option linter.unusedVariables false
set_option maxRecDepth 10000

end Go.Proofs.YtlamhfbdeinkkaeGreat.St
namespace Go.Proofs.YtlamhfbdeinkkaeGreat.St
open Go.RowKit Bk
set_option linter.unusedSimpArgs false
set_option linter.unusedVariables false
set_option maxRecDepth 10000

end Go.Proofs.YtlamhfbdeinkkaeGreat.St
namespace Go.Proofs.YtlamhfbdeinkkaeGreat.St
open Go.RowKit Bk
set_option linter.unusedSimpArgs false
set_option linter.unusedVariables false
set_option maxRecDepth 10000

/-- The place of a live booking of a number. -/
def P.LiveIs (l : List Bkg) (id n : Int) : Prop := (∃ (k : Nat) (b : Bkg), n = k ∧ l[k]? = some b ∧ b.id = id ∧ b.state ≠ 3) ∨ (n = -1 ∧ ∀ b ∈ l, b.id = id → b.state = 3)
theorem LiveIs.one {l : List Bkg} {id n m : Int} (hr : l.Pairwise (fun a b => a.id < b.id)) (h : P.LiveIs l id n) (h' : P.LiveIs l id m) : n = m := by
  rcases h with ⟨k, b, rfl, h1, h2, h3⟩ | ⟨rfl, h1⟩ <;> rcases h' with ⟨k', b', rfl, g1, g2, g3⟩ | ⟨rfl, g1⟩
  · obtain ⟨hk, e1⟩ := List.getElem?_eq_some_iff.1 h1
    obtain ⟨hk', e2⟩ := List.getElem?_eq_some_iff.1 g1
    have hp := List.pairwise_iff_getElem.1 hr
    rcases Nat.lt_trichotomy k k' with hlt | rfl | hlt
    · have := hp k k' hk hk' hlt
      rw [e1, e2] at this
      omega
    · rfl
    · have := hp k' k hk' hk hlt
      rw [e1, e2] at this
      omega
  · exact absurd (g1 b (List.mem_of_getElem? h1) h2) h3
  · exact absurd (h1 b' (List.mem_of_getElem? g1) g2) g3
  · rfl

end Go.Proofs.YtlamhfbdeinkkaeGreat.St
namespace Go.Proofs.YtlamhfbdeinkkaeGreat.St
open Go.RowKit Bk
set_option linter.unusedSimpArgs false
set_option linter.unusedVariables false
set_option maxRecDepth 10000

abbrev W.sel (w : World) (x : Sail) (a : SailA) : World :=
  w.alloc (.cells #[.int .i64 x.s.legs, .int .i64 x.s.souls, .slice a.v.cao x.s.cs.length a.v.cc, .slice a.v.bao x.s.bs.length a.v.bc, .slice a.lo x.L.length a.lc, .int .i64 x.al, .int .i64 x.th, .slice a.bo x.B.length a.bc, .int .i64 x.dn, .int .i64 x.day, .int .i64 x.lvs, .slice a.ao x.bks.length a.cap, .bool x.cl] 88)
def P.sold (b : Bkg) (k : Int) : Bool := decide (b.kind = k) && decide (b.state ≠ 3)
/-- Where a number belongs. -/
structure PlaceIs (l : List Bkg) (t : Int) (k : Nat) : Prop where
  le : k ≤ l.length
  lo : ∀ y ∈ l.take k, y.id < t
  hi : ∀ y ∈ l.drop k, t ≤ y.id
theorem PlaceIs.found {l : List Bkg} {t : Int} {k : Nat} (h : PlaceIs l t k) (hr : l.Pairwise (fun a b => a.id < b.id)) : P.isIn t l = (match l[k]? with | some y => decide (y.id = t) | none => false) := by
  have e : P.isIn t l = (P.isIn t (l.take k) || P.isIn t (l.drop k)) := by
    rw [P.isIn, P.isIn, P.isIn, ← List.any_append, List.take_append_drop]
  have e1 : P.isIn t (l.take k) = false := List.any_eq_false.2 (fun y hy => by have := h.lo y hy; simp; omega)
  rw [e, e1, Bool.false_or]
  cases hk : l[k]? with
  | none =>
    have : l.length ≤ k := List.getElem?_eq_none_iff.1 hk
    rw [List.drop_of_length_le this]
    rfl
  | some y =>
    obtain ⟨hlt, rfl⟩ := List.getElem?_eq_some_iff.1 hk
    rw [P.isIn, List.drop_eq_getElem_cons hlt, List.any_cons]
    have hd : (l.drop (k + 1)).any (fun y => decide (y.id = t)) = false := List.any_eq_false.2 (fun z hz => by
      have h1 := h.hi l[k] (by have e := List.drop_eq_getElem_cons hlt; rw [e]; exact List.mem_cons_self)
      have h2 : l[k].id < z.id := by
        rw [← List.take_append_drop k l, List.pairwise_append, List.drop_eq_getElem_cons hlt, List.pairwise_cons] at hr
        exact hr.2.1.1 z hz
      simp
      omega)
    rw [hd, Bool.or_false]

end Go.Proofs.YtlamhfbdeinkkaeGreat.St
namespace Go.Proofs.YtlamhfbdeinkkaeGreat.St
open Go.RowKit Bk
set_option linter.unusedSimpArgs false
set_option linter.unusedVariables false
set_option maxRecDepth 10000

theorem own_of_row {w : World} {g n cap base : Nat} {l : List BkV} {B : List Value} (hr : w.heap[g]? = some (.cells (l.flatMap cellsV ++ B).toArray 37 (0, 0))) (hn : l.length = n) (hcap : n ≤ cap) (hmax : cap ≤ maxLen) (hsz : n * 11 + B.length = cap * 11) (hb : base ≤ g) : OwnB w base (.slice (some ⟨g, 0, none⟩) n cap) l := by
  subst hn
  have hfl : (l.flatMap cellsV).length = l.length * 11 := flatC_len cellsV_len l
  refine ⟨hfl, .inr ⟨g, cap, _, rfl, hb, hr, hcap, hmax, by simp [hfl]; omega, ?_⟩⟩
  show (l.flatMap cellsV ++ B).take _ = _
  rw [← hfl, List.take_left]

end Go.Proofs.YtlamhfbdeinkkaeGreat.St
namespace Go.Proofs.YtlamhfbdeinkkaeGreat.St
open Go.RowKit Bk
set_option linter.unusedSimpArgs false
set_option linter.unusedVariables false
set_option maxRecDepth 10000

/-- What lies in old blocks, behind whatever keeps them. -/
theorem SlAt.same {α : Type} {R : World → α → List Value → Prop} {size : Nat} (hR : ∀ w w' x cs, R w x cs → R w' x cs) {w U : World} {ao : Option Addr} {cap : Nat} {l : List α} (h : SlAt R size w ao cap l) (hs : ∀ b, b < w.heap.size → U.heap[b]? = w.heap[b]?) (hz : w.heap.size ≤ U.heap.size) : SlAt R size U ao cap l := by
  refine ⟨h.le, h.max, h.nil, fun h0 => ?_⟩
  obtain ⟨b, off, rfl, hlt, hc⟩ := h.cells h0
  refine ⟨b, off, rfl, Nat.lt_of_lt_of_le hlt hz, fun i hi => ?_⟩
  obtain ⟨cs, h1, h2, h3⟩ := hc i hi
  refine ⟨cs, hR _ _ _ _ h1, h2, fun j u hj => ?_⟩
  have h4 := h3 j u hj
  simp only [World.cell?] at h4 ⊢
  rw [hs b hlt]
  exact h4
theorem ents_own {U : World} {base : Nat} {ao : Option Addr} {cap : Nat} {l : List Fo.Ent} (h : Fo.OwnN U base (.slice ao l.length cap) l) : Fo.EntsAt U ao cap l := own_at Fo.cellsN_len h

end Go.Proofs.YtlamhfbdeinkkaeGreat.St
namespace Go.Proofs.YtlamhfbdeinkkaeGreat.St
open Go.RowKit Bk
set_option linter.unusedSimpArgs false
set_option linter.unusedVariables false
set_option maxRecDepth 10000

/-- The world of 'sell' ahead of its first statement. -/
abbrev W.sell (w : World) (x : Sail) (a : SailA) (b : Bkg) (fo : Option Addr) (fc : Nat) : World := (W.bk (W.sel w x a) b fo fc).alloc O.zs

end Go.Proofs.YtlamhfbdeinkkaeGreat.St
namespace Go.Proofs.YtlamhfbdeinkkaeGreat.St
open Go.RowKit Bk
set_option linter.unusedSimpArgs false
set_option linter.unusedVariables false
set_option maxRecDepth 10000

theorem zs_cells {w : World} {g : Nat} (h : RowIs w g C.zs) : w.cell? ⟨g, 0, none⟩ = some (.int .i64 0) ∧ w.cell? ⟨g, 1, none⟩ = some (.int .i64 0) ∧ w.cell? ⟨g, 2, none⟩ = some (.slice none 0 0) ∧ w.cell? ⟨g, 3, none⟩ = some (.slice none 0 0) ∧ w.cell? ⟨g, 4, none⟩ = some (.slice none 0 0) ∧ w.cell? ⟨g, 5, none⟩ = some (.int .i64 0) ∧ w.cell? ⟨g, 6, none⟩ = some (.int .i64 0) ∧ w.cell? ⟨g, 7, none⟩ = some (.slice none 0 0) ∧ w.cell? ⟨g, 8, none⟩ = some (.int .i64 0) ∧ w.cell? ⟨g, 9, none⟩ = some (.int .i64 0) ∧ w.cell? ⟨g, 10, none⟩ = some (.int .i64 0) ∧ w.cell? ⟨g, 11, none⟩ = some (.slice none 0 0) ∧ w.cell? ⟨g, 12, none⟩ = some (.bool false) :=
  ⟨h.cell 0, h.cell 1, h.cell 2, h.cell 3, h.cell 4, h.cell 5, h.cell 6, h.cell 7, h.cell 8, h.cell 9, h.cell 10, h.cell 11, h.cell 12⟩
end Go.Proofs.YtlamhfbdeinkkaeGreat.St
namespace Go.Proofs.YtlamhfbdeinkkaeGreat.St
open Go.RowKit Bk
set_option linter.unusedSimpArgs false
set_option linter.unusedVariables false
set_option maxRecDepth 10000

end Go.Proofs.YtlamhfbdeinkkaeGreat.St
namespace Go.Proofs.YtlamhfbdeinkkaeGreat.St
open Go.RowKit Bk
set_option linter.unusedSimpArgs false
set_option linter.unusedVariables false
set_option maxRecDepth 10000

/-- The least number that is not there. -/
structure LeastIs (l : List Bkg) (n : Int) : Prop where
  pos : 1 ≤ n
  all : ∀ m, 1 ≤ m → m < n → P.isIn m l = true
  out : P.isIn n l = false
theorem LeastIs.one {l : List Bkg} {n m : Int} (h : LeastIs l n) (k : LeastIs l m) : n = m := by
  rcases Int.lt_trichotomy n m with hlt | rfl | hlt
  · have := k.all n h.pos hlt
    rw [h.out] at this
    cases this
  · rfl
  · have := h.all m k.pos hlt
    rw [k.out] at this
    cases this
/-- In another cabin. -/
def P.setC (b : Bkg) (c : Int) : Bkg := ⟨b.id, b.kind, b.state, b.guests, b.level, c, b.cat, b.frm, b.to, b.til, b.fol⟩
/-- I2: the cabins, of the first n, that would be sold. -/
structure OffIs (x : Sail) (b : Bkg) (n : Nat) (l : List Int) : Prop where
  up : l.Pairwise (· < ·)
  lo : ∀ z ∈ l, 0 ≤ z ∧ z < n
  iff : ∀ c : Nat, c < n → ((c : Int) ∈ l ↔ ∃ y, P.Sells 1 x (P.setC b c) 0 y)
theorem OffIs.nil (x : Sail) (b : Bkg) : OffIs x b 0 [] := ⟨by simp, by simp, fun c hc => by omega⟩
theorem sorted_ext {a b : List Int} (ha : a.Pairwise (· < ·)) (hb : b.Pairwise (· < ·)) (h : ∀ z, z ∈ a ↔ z ∈ b) : a = b := by
  induction a generalizing b with
  | nil =>
    cases b with
    | nil => rfl
    | cons y t => exact absurd ((h y).2 (by simp)) (by simp)
  | cons x s ih =>
    cases b with
    | nil => exact absurd ((h x).1 (by simp)) (by simp)
    | cons y t =>
      obtain ⟨a1, a2⟩ := List.pairwise_cons.1 ha
      obtain ⟨b1, b2⟩ := List.pairwise_cons.1 hb
      have hxy : x = y := by
        rcases List.mem_cons.1 ((h x).1 (by simp)) with e | hx
        · exact e
        · rcases List.mem_cons.1 ((h y).2 (by simp)) with e | hy
          · exact e.symm
          · have := a1 y hy; have := b1 x hx; omega
      subst hxy
      congr 1
      refine ih a2 b2 (fun z => ?_)
      have hz := h z
      simp only [List.mem_cons] at hz
      constructor
      · intro hs
        rcases hz.1 (.inr hs) with e | ht
        · have := a1 z hs; omega
        · exact ht
      · intro ht
        rcases hz.2 (.inr ht) with e | hs
        · have := b1 z ht; omega
        · exact hs
theorem OffIs.one {x : Sail} {b : Bkg} {n : Nat} {l l' : List Int} (h : OffIs x b n l) (h' : OffIs x b n l') : l = l' := by
  refine sorted_ext h.up h'.up (fun z => ?_)
  constructor
  · intro hz
    have hb := h.lo z hz
    obtain ⟨c, rfl⟩ : ∃ c : Nat, z = c := ⟨z.toNat, by omega⟩
    exact (h'.iff c (by omega)).2 ((h.iff c (by omega)).1 hz)
  · intro hz
    have hb := h'.lo z hz
    obtain ⟨c, rfl⟩ : ∃ c : Nat, z = c := ⟨z.toNat, by omega⟩
    exact (h.iff c (by omega)).2 ((h'.iff c (by omega)).1 hz)
theorem OffIs.len {x : Sail} {b : Bkg} {n : Nat} {l : List Int} (h : OffIs x b n l) : l.length ≤ n := by
  have hnd : l.Nodup := by
    rw [List.nodup_iff_pairwise_ne]
    exact (List.pairwise_iff_getElem.2 fun i j hi hj hij => by have := List.pairwise_iff_getElem.1 h.up i j hi hj hij; omega)
  exact Ma.pigeon n l hnd (fun z hz => h.lo z hz)

/-- I2: what is wrong. -/
def P.offE (x : Sail) (g f t : Int) : Int := if P.btw g 1 4 = true then (if P.chk f t x.s.legs = 0 then (if x.lvs ≤ x.day then 4 else if 16 ≤ x.bks.length then 2 else 0) else P.chk f t x.s.legs) else 3
/-- Whom they are offered to. -/
def P.who (n g : Int) (lv : Bool) (f t : Int) : Bkg := ⟨n, 1, 2, g, lv, 0, 0, f, t, 0, []⟩
/-- I2: the errno, and the cabins. -/
def P.Offs (x : Sail) (g : Int) (lv : Bool) (f t r : Int) (l : List Int) : Prop := r = P.offE x g f t ∧ (¬ r = 0 → l = []) ∧ (r = 0 → ∃ n, LeastIs x.bks n ∧ OffIs x (P.who n g lv f t) x.s.bs.length l)
def P.OffS (x : Sail) (g : Int) (lv : Bool) (f t r : Int) (l : List Int) : Prop := (∃ q, P.SailE x q ∧ ¬ q = 0 ∧ r = q ∧ l = []) ∨ (P.SailE x 0 ∧ P.Offs x g lv f t r l)
theorem Offs.one {x : Sail} {g : Int} {lv : Bool} {f t r r' : Int} {l l' : List Int} (h : P.Offs x g lv f t r l) (h' : P.Offs x g lv f t r' l') : r = r' ∧ l = l' := by
  obtain ⟨rfl, h1, h2⟩ := h
  obtain ⟨rfl, k1, k2⟩ := h'
  refine ⟨rfl, ?_⟩
  by_cases h0 : P.offE x g f t = 0
  · obtain ⟨n, a1, a2⟩ := h2 h0
    obtain ⟨m, b1, b2⟩ := k2 h0
    obtain rfl := LeastIs.one a1 b1
    exact OffIs.one a2 b2
  · rw [h1 h0, k1 h0]
theorem OffS.one {x : Sail} {g : Int} {lv : Bool} {f t r r' : Int} {l l' : List Int} (h : P.OffS x g lv f t r l) (h' : P.OffS x g lv f t r' l') : r = r' ∧ l = l' := by
  rcases h with ⟨q, a1, a2, rfl, rfl⟩ | ⟨a1, a2⟩ <;> rcases h' with ⟨q', b1, b2, rfl, rfl⟩ | ⟨b1, b2⟩
  · exact ⟨SailE.one a1 b1, rfl⟩
  · exact absurd (SailE.one a1 b1) a2
  · exact absurd (SailE.one b1 a1) b2
  · exact Offs.one a2 b2
end Go.Proofs.YtlamhfbdeinkkaeGreat.St
namespace Go.Proofs.YtlamhfbdeinkkaeGreat.St
open Go.RowKit Bk
set_option linter.unusedSimpArgs false
set_option linter.unusedVariables false
set_option maxRecDepth 10000

theorem wpList_stQ {ops : Array Oper} {rest : List Oper} {act : Act} {Q : Exit → Act → World → Prop} {w : World} {ty tt : TypeId} {x y : Operand} {pos : String} {af : Array Edge}
    (g : Nat) (old cells : Array Value) (hty : (Tryz.prog.info? ty).map (·.size) = some cells.size) (hx : act.eval x = .pointer (some ⟨g, 0, none⟩)) (hy : act.eval y = .agg cells) (hb : RowIs w g old) (hsz : old.size = cells.size) (h1 : cells.all (·.oneCell') = true)
    (h : ∀ w', RowIs w' g cells → w.grownBy w' (some g) → wpList Tryz.prog ops Q rest (act.put none undef) w') : wpList Tryz.prog ops Q ({ dst := none, op := .store ty x y, type := tt, pos := pos, after := af, guard := none } :: rest) act w :=
  wpList_stC rfl ty x y rfl g old cells hty hx hy hb hsz h1 h
theorem own_row {w : World} {base G cap n : Nat} {lv : List BkV} (h : OwnB w base (.slice (some ⟨G, 0, none⟩) n cap) lv) (hn : lv.length = n) (h0 : 0 < n) : ∃ cur, w.heap[G]? = some (.cells cur 37 (0, 0)) ∧ cur.size = cap * 11 ∧ n ≤ cap ∧ base ≤ G := by
  obtain ⟨hx, h2⟩ := h
  rcases h2 with ⟨h3, _⟩ | ⟨g', cap', cur, hv, hgb, hh, hn', hcm, hsz, htk⟩
  · simp at h3
  · simp only [Value.slice.injEq, Option.some.injEq, Addr.mk.injEq, and_true] at hv
    obtain ⟨rfl, rfl, rfl⟩ := hv
    exact ⟨cur, hh, hsz, hn', hgb⟩
theorem own_there {w : World} {base G cap n k : Nat} {lv : List BkV} (h : OwnB w base (.slice (some ⟨G, 0, none⟩) n cap) lv) (hn : lv.length = n) (hk : k < n) : w.there G (k * 11) 11 := by
  obtain ⟨cur, h1, h2, h3, _⟩ := own_row h hn (by omega)
  intro j hj
  have hlt : k * 11 + j < cur.size := by omega
  refine ⟨?_, by simp [World.frozen?, h1]⟩
  rw [cell_of_row w G (k * 11 + j) cur _ (0, 0) h1, Array.getElem?_eq_getElem hlt]
  rfl
theorem own_form {w : World} {base n : Nat} {v : Value} {lv : List BkV} (h : OwnB w base v lv) (hn : lv.length = n) (h0 : 0 < n) : ∃ G cap, v = .slice (some ⟨G, 0, none⟩) n cap ∧ base ≤ G ∧ G < w.heap.size := by
  obtain ⟨hx, h2⟩ := h
  rcases h2 with ⟨h3, h4⟩ | ⟨g', cap', cur, hv, hgb, hh, hn', hcm, hsz, htk⟩
  · simp at h4
    subst h4
    simp at hn
    omega
  · exact ⟨g', cap', by rw [hv, hn], hgb, (Array.getElem?_eq_some_iff.1 hh).1⟩
/-- A store of one element. -/
theorem wpList_stE {ops : Array Oper} {rest : List Oper} {act : Act} {Q : Exit → Act → World → Prop} {w : World} {ty tt : TypeId} {x y : Operand} {pos : String} {af : Array Edge}
    (G k n cap base : Nat) (lv : List BkV) (z : BkV) (hty : (Tryz.prog.info? ty).map (·.size) = some 11) (hx : act.eval x = .pointer (some ⟨G, k * 11, none⟩)) (hy : act.eval y = .agg (cellsV z).toArray) (hO : OwnB w base (.slice (some ⟨G, 0, none⟩) n cap) lv) (hn : lv.length = n) (hk : k < n)
    (h : ∀ w', OwnB w' base (.slice (some ⟨G, 0, none⟩) n cap) (lv.set k z) → w.grownBy w' (some G) → wpList Tryz.prog ops Q rest (act.put none undef) w') : wpList Tryz.prog ops Q ({ dst := none, op := .store ty x y, type := tt, pos := pos, after := af, guard := none } :: rest) act w := by
  have hl : (cellsV z).toArray.size = 11 := by rw [List.size_toArray]; exact cellsV_len z
  subst hn
  have hp := own_put cellsV_len cellsV_one hO k z hk
  rw [List.length_set] at hp
  refine wpList_store_mid rfl ty x y rfl G (k * 11) (cellsV z).toArray hx hy (by rw [hl]; exact own_there hO rfl hk) (by rw [hl]; exact hty) (all_oneCell_toArray (cellsV_one z)) ?_
  exact h _ hp.1 hp.2

theorem setB_row {w1 : World} {g G cap i : Nat} {x : Sail} {a : SailA} {b : Bkg} (h : SRow w1 g x a) (hl : (x.bks.set i b).length = x.bks.length) : SRow (w1.setCell ⟨g, 11, none⟩ (.slice (some ⟨G, 0, none⟩) x.bks.length cap)) g (P.setB x (x.bks.set i b)) ⟨a.v, a.lo, a.bo, a.lc, a.bc, some ⟨G, 0, none⟩, cap⟩ := by
  have h2 := RowIs.set (k := 11) h (.slice (some ⟨G, 0, none⟩) x.bks.length cap)
  have e : (C.sail x a).setIfInBounds 11 (.slice (some ⟨G, 0, none⟩) x.bks.length cap) = C.sail (P.setB x (x.bks.set i b)) ⟨a.v, a.lo, a.bo, a.lc, a.bc, some ⟨G, 0, none⟩, cap⟩ := by
    show _ = #[_, _, _, _, _, _, _, _, _, _, _, Value.slice _ (x.bks.set i b).length _, _]
    rw [hl]
    rfl
  rwa [e] at h2
set_option maxHeartbeats 8000000 in
theorem setBooking_own (x : Sail) (a : SailA) (lv : List BkV) (i : Nat) (b : Bkg) (fo : Option Addr) (fc : Nat) (w : World) (hlv : lv.map (·.1) = x.bks) (hl : SlAt (RC cellsV) 11 w a.ao a.cap lv) (h16 : x.bks.length ≤ 16) (hi : i < x.bks.length) :
    Calls Tryz.prog 78 #[V.sail x a, .int .i64 i, V.bk b fo fc] w fun e w' => ∃ G cap, e = .returned (V.sail (P.setB x (x.bks.set i b)) ⟨a.v, a.lo, a.bo, a.lc, a.bc, some ⟨G, 0, none⟩, cap⟩) ∧ OwnB w' w.heap.size (.slice (some ⟨G, 0, none⟩) x.bks.length cap) (lv.set i (b, fo, fc)) ∧ Below w.heap.size w w' := by
  have hn : lv.length = x.bks.length := by rw [← hlv]; simp
  have HN : Aside (lv.length = x.bks.length) := hn
  have HPL : Aside (SlAt (RC cellsV) 11 w a.ao a.cap lv) := hl
  have hb0 : Below w.heap.size w ((W.bk (W.sail w x a) b fo fc).alloc O.zs) := bvia (sail_below w x a) (bvia (bk_below _ b fo fc) (al _ _))
  have HX0 : Aside (SRow ((W.bk (W.sail w x a) b fo fc).alloc O.zs) w.heap.size x a) := ((RowIs.new w _ _ : SRow (W.sail w x a) w.heap.size x a).below (bk_below _ b fo fc)).below (al _ _)
  have HY0 : Aside (RowIs ((W.bk (W.sail w x a) b fo fc).alloc O.zs) (w.heap.size + 1) (C.bk b fo fc)) := by
    have := (RowIs.new (W.sail w x a) (C.bk b fo fc) 37).below (al _ O.zs)
    rwa [World.size_alloc] at this
  have HZ0 : Aside (RowIs ((W.bk (W.sail w x a) b fo fc).alloc O.zs) (w.heap.size + 1 + 1) C.zs) := by
    have := RowIs.new (W.bk (W.sail w x a) b fo fc) C.zs 32
    rwa [World.size_alloc, World.size_alloc] at this
  clear hlv hl hn
  obtain ⟨d0, d1, d2, d3, d4, d5, d6, d7, d8, d9, d10, d11, d12⟩ := SRow.box HX0.out
  obtain ⟨z0, z1, z2, z3, z4, z5, z6, z7, z8, z9, z10⟩ := HY0.out.bbox
  go_enter Tryz.func78, Tryz.ntmps78
  have hOE : Aside (OwnB (((W.bk (W.sail w x a) b fo fc).alloc O.zs).alloc (.cells #[] 37)) (w.heap.size + 1 + 1 + 1) (.slice (some ⟨w.heap.size + 1 + 1 + 1, 0, none⟩) 0 0) []) := by
    have := OwnC.empty (cells := cellsV) (size := 11) (e := 37) ((W.bk (W.sail w x a) b fo fc).alloc O.zs) (w.heap.size + 1 + 1 + 1) (by simp)
    have hz : ((W.bk (W.sail w x a) b fo fc).alloc O.zs).heap.size = w.heap.size + 1 + 1 + 1 := by simp
    rw [hz] at this
    exact this
  have hE4 : Below w.heap.size w (((W.bk (W.sail w x a) b fo fc).alloc O.zs).alloc (.cells #[] 37)) := bvia hb0 (al _ _)
  have HPL4 : Aside (SlAt (RC cellsV) 11 (((W.bk (W.sail w x a) b fo fc).alloc O.zs).alloc (.cells #[] 37)) a.ao a.cap lv) := SlAt.below (RC.mono _) HPL.out hE4
  have HLS : Aside ((x.bks.set i b).length = x.bks.length) := by show _ = _; simp
  go_wp2_with (first
    | (at_builtin; refine wpList_app_many Tryz.infoBk Tryz.underlying30 rfl (by decide) cellsV_len cellsV_one (by decide) rfl _ _ (by rfl) (w.heap.size + 1 + 1 + 1) (.slice (some ⟨w.heap.size + 1 + 1 + 1, 0, none⟩) 0 0) [] a.ao a.cap lv (by rfl) hOE.out (by show _ = Value.slice _ lv.length _; rw [HN.out]; rfl) HPL4.out (by simp) (by simp) (by rw [HN.out]; omega) ?_; intro v1 w1 own1 gr1; obtain ⟨G, cap, hv1, hG1, hG2⟩ := own_form own1 (by simpa using HN.out) (show 0 < x.bks.length by omega); subst hv1; have HX1 : Aside (SRow w1 w.heap.size x a) := (HX0.out.below (al _ _)).gr gr1 (fun e => by have h : some (w.heap.size) = some (w.heap.size + 1 + 1 + 1) := e; have := Option.some.inj h; omega); have HY1 : Aside (RowIs w1 (w.heap.size + 1) (C.bk b fo fc)) := (HY0.out.below (al _ _)).gr gr1 (fun e => by have h : some (w.heap.size + 1) = some (w.heap.size + 1 + 1 + 1) := e; have := Option.some.inj h; omega); have HZ1 : Aside (RowIs w1 (w.heap.size + 1 + 1) C.zs) := (HZ0.out.below (al _ _)).gr gr1 (fun e => by have h : some (w.heap.size + 1 + 1) = some (w.heap.size + 1 + 1 + 1) := e; have := Option.some.inj h; omega); have HO1 : Aside (OwnB w1 (w.heap.size + 1 + 1 + 1) (.slice (some ⟨G, 0, none⟩) x.bks.length cap) lv) := own1; have hB1 : Below w.heap.size w w1 := hE4.grown gr1 hE4.size (fun j hj => (by have h : some (w.heap.size + 1 + 1 + 1) = some j := hj; have := Option.some.inj h; omega)); have HO2 : Aside (OwnB (w1.setCell ⟨w.heap.size, 11, none⟩ (.slice (some ⟨G, 0, none⟩) x.bks.length cap)) (w.heap.size + 1 + 1 + 1) (.slice (some ⟨G, 0, none⟩) x.bks.length cap) lv) := OwnC.apart HO1.out (grown_set w1 w.heap.size 11 _) (fun r e hv => (by cases e; have := (HO1.out.lt _ hv).1; omega)); clear d0 d1 d2 d3 d4 d5 d6 d7 d8 d9 d10 d11 d12 z0 z1 z2 z3 z4 z5 z6 z7 z8 z9 z10 own1 gr1; obtain ⟨d0, d1, d2, d3, d4, d5, d6, d7, d8, d9, d10, d11, d12⟩ := SRow.box HX1.out; obtain ⟨z0, z1, z2, z3, z4, z5, z6, z7, z8, z9, z10⟩ := HY1.out.bbox; have f11 := HX1.out.free 11; have hx1 : w.heap.size < w1.heap.size := HX1.out.lt; have hGw : G ≠ w.heap.size := (by omega))
    | ((with_reducible refine wpList_stE G i x.bks.length cap (w.heap.size + 1 + 1 + 1) lv (b, fo, fc) ?_ ?_ ?_ ?_ ?_ ?_ ?_); exact Tryz.sizeBg; rfl; rfl; exact HO2.out; exact HN.out; exact hi; intro w3 own3 gr3; have HX3 : Aside (SRow w3 w.heap.size (P.setB x (x.bks.set i b)) ⟨a.v, a.lo, a.bo, a.lc, a.bc, some ⟨G, 0, none⟩, cap⟩) := (setB_row HX1.out HLS.out).gr gr3 (by simp; omega); have HZ3 : Aside (RowIs w3 (w.heap.size + 1 + 1) C.zs) := (HZ1.out.gr (grown_set w1 w.heap.size 11 _) (by simp; omega)).gr gr3 (by simp; omega); have hB3 : Below w.heap.size w w3 := below_gr (below_gr hB1 hB1.size (grown_set w1 w.heap.size 11 _) (by omega)) (by have := hB1.size; simp [World.setCell]; omega) gr3 (by omega); clear d0 d1 d2 d3 d4 d5 d6 d7 d8 d9 d10 d11 d12 z0 z1 z2 z3 z4 z5 z6 z7 z8 z9 z10 f11; obtain ⟨k0, k1, k2, k3, k4, k5, k6, k7, k8, k9, k10, k11, k12⟩ := SRow.box HX3.out)
    | ((with_reducible refine wpList_stQ (w.heap.size + 1 + 1) C.zs (C.sail (P.setB x (x.bks.set i b)) ⟨a.v, a.lo, a.bo, a.lc, a.bc, some ⟨G, 0, none⟩, cap⟩) ?_ ?_ ?_ HZ3.out ?_ ?_ ?_); exact Tryz.sizeSail; rfl; rfl; rfl; exact sail_one _ _; intro w9 hr9 hg9))
  exact bodyPost_ret (res1 rfl hr9 _ rfl Tryz.underlying32 rfl Tryz.sizeSail) rfl ⟨G, cap, rfl, OwnC.ahead (OwnC.apart own3 hg9 (fun r e hv => by cases e; have := (own3.lt _ hv).1; omega)) (by omega), below_gr hB3 hB3.size hg9 (by omega)⟩

end Go.Proofs.YtlamhfbdeinkkaeGreat.St
namespace Go.Proofs.YtlamhfbdeinkkaeGreat.St
open Go.RowKit Bk
set_option linter.unusedSimpArgs false
set_option linter.unusedVariables false
set_option maxRecDepth 10000

/-- What a literal does to a booking b that lies at a place of a slice of the call's own: T tells the errno and what the booking is then. -/
def LitOk (w : World) (F : Nat) (cs : Array Value) (b : Bkg) (T : Int → Bkg → Prop) : Prop :=
  ∀ (U : World) (m G n k : Nat) (lv : List BkV) (fo : Option Addr) (fc : Nat), Below w.heap.size w U → w.heap.size ≤ m → OwnB U m (.slice (some ⟨G, 0, none⟩) n n) lv → lv.length = n → lv[k]? = some (b, fo, fc) → Fo.OwnN U (G + 1) (.slice fo b.fol.length fc) b.fol →
    Calls Tryz.prog F (#[.pointer (some ⟨G, k * 11, none⟩)] ++ cs) U fun e w' => ∃ (r : Int) (b' : Bkg), e = .returned (.int .i64 r) ∧ T r b' ∧ (∀ i, i < U.heap.size → i ≠ G → w'.heap[i]? = U.heap[i]?) ∧ Below m U w' ∧
      (r = 0 → ∃ fo' fc', OwnB w' m (.slice (some ⟨G, 0, none⟩) n n) (lv.set k (b', fo', fc')) ∧ Fo.OwnN w' (G + 1) (.slice fo' b'.fol.length fc') b'.fol)
theorem setB_cells {x : Sail} {a : SailA} {l : List Bkg} (h : l.length = x.bks.length) : C.sail x a = C.sail (P.setB x l) a := by
  show _ = #[_, _, _, _, _, _, _, _, _, _, _, Value.slice _ l.length _, _]
  rw [h]
  rfl
/-- The sailing behind it. -/
theorem change2_fin {w w1 w' : World} {p N m G k : Nat} {x : Sail} {a : SailA} {lv : List BkV} {b' : Bkg} {fo' : Option Addr} {fc' : Nat} (hF : Fresh w1 N m G x a lv) (hs : ∀ i, i < (W.sail w1 x a).heap.size → i ≠ G → w'.heap[i]? = (W.sail w1 x a).heap[i]?) (hb : Below m (W.sail w1 x a) w')
    (hO : OwnB w' m (.slice (some ⟨G, 0, none⟩) x.bks.length x.bks.length) (lv.set k (b', fo', fc'))) (he : Fo.OwnN w' (G + 1) (.slice fo' b'.fol.length fc') b'.fol) :
    SRow w' w1.heap.size (P.setB x (x.bks.set k b')) a ∧ ∀ U, Gap p w.heap.size N w' U → SailAt U (P.setB x (x.bks.set k b')) a := by
  have hG := hF.lt
  have hnm := hF.nm
  have hmG := hF.mG
  have hsz : (W.sail w1 x a).heap.size = w1.heap.size + 1 := by simp
  have hbs := sail_below w1 x a
  have hz := hb.size
  refine ⟨?_, fun U hU => ?_⟩
  · obtain ⟨t, ht⟩ := (RowIs.new w1 _ _ : SRow (W.sail w1 x a) w1.heap.size x a)
    have e := setB_cells (x := x) (a := a) (l := x.bks.set k b') (by simp)
    exact ⟨t, by rw [← e, hs w1.heap.size (by omega) (by omega)]; exact ht⟩
  · have hUz := hU.1
    obtain ⟨s1, s2⟩ := hF.low U (by omega) (fun c h1 h2 => by
      rw [hU.2 c (.inr h1) (by omega), hb.block c h2, hbs.block c (by omega)])
    refine ⟨s1, s2, ?_⟩
    have hOU := OwnC.up hO (w' := U) ⟨hUz, fun c h1 h2 => hU.2 c (.inr (by omega)) h2⟩
    have hent : ∀ y ∈ lv.set k (b', fo', fc'), Fo.EntsAt U y.2.1 y.2.2 y.1.fol := fun y hy => by
      rcases List.mem_or_eq_of_mem_set hy with h | rfl
      · exact ents_own (OwnC.up (hF.ent y h) ⟨by omega, fun c h1 h2 => by
          rw [hU.2 c (.inr (by omega)) (by omega), hs c (by omega) (by omega), hbs.block c h2]⟩)
      · exact ents_own (OwnC.up he ⟨hUz, fun c h1 h2 => hU.2 c (.inr (by omega)) h2⟩)
    have := BkVsAt.all (bkvs_of (own_at cellsV_len hOU) hent)
    rw [List.map_set, hF.map] at this
    rw [← hF.ao, ← hF.cap] at this
    exact this

set_option maxHeartbeats 4000000 in
theorem change2_how (p : Nat) (w : World) (x : Sail) (pf pa F k : Nat) (cs : Array Value) (b : Bkg) (T : Int → Bkg → Prop) (hf : w.cell? ⟨pf, 0, none⟩ = some (.func (.func F) #[] cs)) (ha : w.cell? ⟨pa, 0, none⟩ = some (.int .i64 k)) (hk : x.bks[k]? = some b) (h16 : x.bks.length ≤ 16)
    (hcf : ∀ (args : Array Value) (wx : World), (callFunc F args).run Tryz.prog wx = .ok (.enter F args) wx) (hL : LitOk w F cs b T) :
    HowOk p w x 118 #[.pointer (some ⟨pf, 0, none⟩), .pointer (some ⟨pa, 0, none⟩)] (fun r => ∃ b', T r b') (fun y => ∃ b', T 0 b' ∧ y = P.setB x (x.bks.set k b')) := by
  intro w1 N m G a lv hB1 hN hF
  have hkl : k < x.bks.length := (List.getElem?_eq_some_iff.1 hk).1
  have hln : lv.length = x.bks.length := by rw [← hF.map]; simp
  have hBs := bvia hB1 (sail_below w1 x a)
  have hBd := bvia hBs (dr _)
  have f1 := cellIn hBd hf
  have a1 := cellIn hBd ha
  have f0 := cellIn hBs hf
  have a0 := cellIn hBs ha
  obtain ⟨v, hv⟩ : ∃ v, lv[k]? = some v := ⟨lv[k]'(by omega), List.getElem?_eq_getElem (by omega)⟩
  have hvb : v.1 = b := by
    have h1 : (lv.map (·.1))[k]? = some v.1 := by rw [List.getElem?_map, hv]; rfl
    rw [hF.map, hk] at h1
    exact (Option.some.inj h1).symm
  obtain ⟨vb, fo, fc⟩ := v
  have hvb : vb = b := hvb
  subst hvb
  have hmem : (vb, fo, fc) ∈ lv := List.mem_of_getElem? hv
  have HC : Aside (Calls Tryz.prog F (#[.pointer (some ⟨G, k * 11, none⟩)] ++ cs) (W.sail w1 x a).drew _) := hL (W.sail w1 x a).drew m G x.bks.length k lv fo fc hBd (Nat.le_trans hN hF.nm) (OwnC.below hF.own (bvia (sail_below w1 x a) (dr _))) hln hv (OwnC.below (hF.ent _ hmem) (bvia (sail_below w1 x a) (dr _)))
  have d11 : (W.sail w1 x a).drew.cell? ⟨w1.heap.size, 11, none⟩ = some (.slice (some ⟨G, 0, none⟩) x.bks.length x.bks.length) := by
    have := ((RowIs.new w1 (C.sail x a) 32).below (dr _)).cell 11
    rw [show (C.sail x a)[11]? = some (.slice a.ao x.bks.length a.cap) from rfl, hF.ao, hF.cap] at this
    exact this
  have HFR : Aside (Fresh w1 N m G x a lv) := hF
  have hki : (k : Int) < x.bks.length := by omega
  clear hF hL hBs hBd hmem hv
  go_enter Tryz.func118, Tryz.ntmps118
  clear hvb
  go_wp2_with fail
  go_region_with (first | (refine HC.out.mono ?_; rintro e w2 ⟨r, b', rfl, hT, hsame, hb2, hO⟩))
  all_goals
    have HFIN : Aside (Below m (W.sail w1 x a) w2 ∧ (r = 0 → ∃ y a', SRow w2 w1.heap.size y a' ∧ (∃ b', T 0 b' ∧ y = P.setB x (x.bks.set k b')) ∧ ∀ U, Gap p w.heap.size N w2 U → SailAt U y a')) := by
      have hb3 : Below m (W.sail w1 x a) w2 := ((dr (W.sail w1 x a)).mono (by have := HFR.out.lt; have := HFR.out.mG; simp; omega)).trans hb2
      refine ⟨hb3, fun h0 => ?_⟩
      subst h0
      obtain ⟨fo', fc', o1, o2⟩ := hO rfl
      obtain ⟨q1, q2⟩ := change2_fin (w := w) (p := p) HFR.out (fun i hi hne => hsame i hi hne) hb3 o1 o2
      exact ⟨_, a, q1, ⟨b', hT, rfl⟩, q2⟩
    have HT : Aside (T r b') := hT
    clear hT hsame hb2 hO HC d11 f0 f1 a0 a1
    go_wp2
    go_ret
    exact ⟨r, rfl, ⟨b', HT.out⟩, HFIN.out.2, HFIN.out.1⟩

end Go.Proofs.YtlamhfbdeinkkaeGreat.St
