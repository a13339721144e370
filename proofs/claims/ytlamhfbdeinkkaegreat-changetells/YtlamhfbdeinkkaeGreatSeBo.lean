/- Package sell: its small ones; the place of a number. -/
import Derived.Test.YtlamhfbdeinkkaeGreatAnCo
import Derived.Lib.AppendZerosOnto
import Derived.Deep.RegionHeld3
import Derived.Test.YtlamhfbdeinkkaeGreatStPo
import Derived.BigRegion
import Derived.Test.YtlamhfbdeinkkaeGreatStRo
import Derived.Test.YtlamhfbdeinkkaeGreatStXo
namespace Go.Proofs.YtlamhfbdeinkkaeGreat.St
open Go.RowKit Bk
set_option linter.unusedSimpArgs false
set_option linter.unusedVariables false
set_option maxRecDepth 10000

abbrev W.sel (w : World) (x : Sail) (a : SailA) : World :=
  w.alloc (.cells #[.int .i64 x.s.legs, .int .i64 x.s.souls, .slice a.v.cao x.s.cs.length a.v.cc, .slice a.v.bao x.s.bs.length a.v.bc, .slice a.lo x.L.length a.lc, .int .i64 x.al, .int .i64 x.th, .slice a.bo x.B.length a.bc, .int .i64 x.dn, .int .i64 x.day, .int .i64 x.lvs, .slice a.ao x.bks.length a.cap, .bool x.cl] 88)
def P.sold (b : Bkg) (k : Int) : Bool := decide (b.kind = k) && decide (b.state ≠ 3)
/-- Where a number belongs. -/
structure PlaceIs (l : List Bkg) (t : Int) (k : Nat) : Prop where
  le : k ≤ l.length
  lo : ∀ y ∈ l.take k, y.id < t
  hi : ∀ y ∈ l.drop k, t ≤ y.id
theorem PlaceIs.found {l : List Bkg} {t : Int} {k : Nat} (h : PlaceIs l t k) (hr : l.Pairwise (fun a b => a.id < b.id)) : P.isIn t l = (match l[k]? with | some y => decide (y.id = t) | none => false) := by
  have e : P.isIn t l = (P.isIn t (l.take k) || P.isIn t (l.drop k)) := by
    rw [P.isIn, P.isIn, P.isIn, ← List.any_append, List.take_append_drop]
  have e1 : P.isIn t (l.take k) = false := List.any_eq_false.2 (fun y hy => by have := h.lo y hy; simp; omega)
  rw [e, e1, Bool.false_or]
  cases hk : l[k]? with
  | none =>
    have : l.length ≤ k := List.getElem?_eq_none_iff.1 hk
    rw [List.drop_of_length_le this]
    rfl
  | some y =>
    obtain ⟨hlt, rfl⟩ := List.getElem?_eq_some_iff.1 hk
    rw [P.isIn, List.drop_eq_getElem_cons hlt, List.any_cons]
    have hd : (l.drop (k + 1)).any (fun y => decide (y.id = t)) = false := List.any_eq_false.2 (fun z hz => by
      have h1 := h.hi l[k] (by have e := List.drop_eq_getElem_cons hlt; rw [e]; exact List.mem_cons_self)
      have h2 : l[k].id < z.id := by
        rw [← List.take_append_drop k l, List.pairwise_append, List.drop_eq_getElem_cons hlt, List.pairwise_cons] at hr
        exact hr.2.1.1 z hz
      simp
      omega)
    rw [hd, Bool.or_false]

end Go.Proofs.YtlamhfbdeinkkaeGreat.St
namespace Go.Proofs.YtlamhfbdeinkkaeGreat.St
open Go.RowKit Bk
set_option linter.unusedSimpArgs false
set_option linter.unusedVariables false
set_option maxRecDepth 10000

theorem own_of_row {w : World} {g n cap base : Nat} {l : List BkV} {B : List Value} (hr : w.heap[g]? = some (.cells (l.flatMap cellsV ++ B).toArray 37 (0, 0))) (hn : l.length = n) (hcap : n ≤ cap) (hmax : cap ≤ maxLen) (hsz : n * 11 + B.length = cap * 11) (hb : base ≤ g) : OwnB w base (.slice (some ⟨g, 0, none⟩) n cap) l := by
  subst hn
  have hfl : (l.flatMap cellsV).length = l.length * 11 := flatC_len cellsV_len l
  refine ⟨hfl, .inr ⟨g, cap, _, rfl, hb, hr, hcap, hmax, by simp [hfl]; omega, ?_⟩⟩
  show (l.flatMap cellsV ++ B).take _ = _
  rw [← hfl, List.take_left]

end Go.Proofs.YtlamhfbdeinkkaeGreat.St
namespace Go.Proofs.YtlamhfbdeinkkaeGreat.St
open Go.RowKit Bk
set_option linter.unusedSimpArgs false
set_option linter.unusedVariables false
set_option maxRecDepth 10000

/-- What lies in old blocks, behind whatever keeps them. -/
theorem SlAt.same {α : Type} {R : World → α → List Value → Prop} {size : Nat} (hR : ∀ w w' x cs, R w x cs → R w' x cs) {w U : World} {ao : Option Addr} {cap : Nat} {l : List α} (h : SlAt R size w ao cap l) (hs : ∀ b, b < w.heap.size → U.heap[b]? = w.heap[b]?) (hz : w.heap.size ≤ U.heap.size) : SlAt R size U ao cap l := by
  refine ⟨h.le, h.max, h.nil, fun h0 => ?_⟩
  obtain ⟨b, off, rfl, hlt, hc⟩ := h.cells h0
  refine ⟨b, off, rfl, Nat.lt_of_lt_of_le hlt hz, fun i hi => ?_⟩
  obtain ⟨cs, h1, h2, h3⟩ := hc i hi
  refine ⟨cs, hR _ _ _ _ h1, h2, fun j u hj => ?_⟩
  have h4 := h3 j u hj
  simp only [World.cell?] at h4 ⊢
  rw [hs b hlt]
  exact h4
theorem ents_own {U : World} {base : Nat} {ao : Option Addr} {cap : Nat} {l : List Fo.Ent} (h : Fo.OwnN U base (.slice ao l.length cap) l) : Fo.EntsAt U ao cap l := own_at Fo.cellsN_len h

end Go.Proofs.YtlamhfbdeinkkaeGreat.St
namespace Go.Proofs.YtlamhfbdeinkkaeGreat.St
open Go.RowKit Bk
set_option linter.unusedSimpArgs false
set_option linter.unusedVariables false
set_option maxRecDepth 10000

/-- The world of 'sell' ahead of its first statement. -/
abbrev W.sell (w : World) (x : Sail) (a : SailA) (b : Bkg) (fo : Option Addr) (fc : Nat) : World := (W.bk (W.sel w x a) b fo fc).alloc O.zs

end Go.Proofs.YtlamhfbdeinkkaeGreat.St
namespace Go.Proofs.YtlamhfbdeinkkaeGreat.St
open Go.RowKit Bk
set_option linter.unusedSimpArgs false
set_option linter.unusedVariables false
set_option maxRecDepth 10000

theorem zs_cells {w : World} {g : Nat} (h : RowIs w g C.zs) : w.cell? ⟨g, 0, none⟩ = some (.int .i64 0) ∧ w.cell? ⟨g, 1, none⟩ = some (.int .i64 0) ∧ w.cell? ⟨g, 2, none⟩ = some (.slice none 0 0) ∧ w.cell? ⟨g, 3, none⟩ = some (.slice none 0 0) ∧ w.cell? ⟨g, 4, none⟩ = some (.slice none 0 0) ∧ w.cell? ⟨g, 5, none⟩ = some (.int .i64 0) ∧ w.cell? ⟨g, 6, none⟩ = some (.int .i64 0) ∧ w.cell? ⟨g, 7, none⟩ = some (.slice none 0 0) ∧ w.cell? ⟨g, 8, none⟩ = some (.int .i64 0) ∧ w.cell? ⟨g, 9, none⟩ = some (.int .i64 0) ∧ w.cell? ⟨g, 10, none⟩ = some (.int .i64 0) ∧ w.cell? ⟨g, 11, none⟩ = some (.slice none 0 0) ∧ w.cell? ⟨g, 12, none⟩ = some (.bool false) :=
  ⟨h.cell 0, h.cell 1, h.cell 2, h.cell 3, h.cell 4, h.cell 5, h.cell 6, h.cell 7, h.cell 8, h.cell 9, h.cell 10, h.cell 11, h.cell 12⟩
end Go.Proofs.YtlamhfbdeinkkaeGreat.St
namespace Go.Proofs.YtlamhfbdeinkkaeGreat.St
open Go.RowKit Bk
set_option linter.unusedSimpArgs false
set_option linter.unusedVariables false
set_option maxRecDepth 10000

end Go.Proofs.YtlamhfbdeinkkaeGreat.St
namespace Go.Proofs.YtlamhfbdeinkkaeGreat.St
open Go.RowKit Bk
set_option linter.unusedSimpArgs false
set_option linter.unusedVariables false
set_option maxRecDepth 10000

/-- The least number that is not there. -/
structure LeastIs (l : List Bkg) (n : Int) : Prop where
  pos : 1 ≤ n
  all : ∀ m, 1 ≤ m → m < n → P.isIn m l = true
  out : P.isIn n l = false
theorem LeastIs.one {l : List Bkg} {n m : Int} (h : LeastIs l n) (k : LeastIs l m) : n = m := by
  rcases Int.lt_trichotomy n m with hlt | rfl | hlt
  · have := k.all n h.pos hlt
    rw [h.out] at this
    cases this
  · rfl
  · have := h.all m k.pos hlt
    rw [k.out] at this
    cases this
/-- In another cabin. -/
def P.setC (b : Bkg) (c : Int) : Bkg := ⟨b.id, b.kind, b.state, b.guests, b.level, c, b.cat, b.frm, b.to, b.til, b.fol⟩
/-- I2: the cabins, of the first n, that would be sold. -/
structure OffIs (x : Sail) (b : Bkg) (n : Nat) (l : List Int) : Prop where
  up : l.Pairwise (· < ·)
  lo : ∀ z ∈ l, 0 ≤ z ∧ z < n
  iff : ∀ c : Nat, c < n → ((c : Int) ∈ l ↔ ∃ y, P.Sells 1 x (P.setC b c) 0 y)
theorem OffIs.nil (x : Sail) (b : Bkg) : OffIs x b 0 [] := ⟨by simp, by simp, fun c hc => by omega⟩
theorem sorted_ext {a b : List Int} (ha : a.Pairwise (· < ·)) (hb : b.Pairwise (· < ·)) (h : ∀ z, z ∈ a ↔ z ∈ b) : a = b := by
  induction a generalizing b with
  | nil =>
    cases b with
    | nil => rfl
    | cons y t => exact absurd ((h y).2 (by simp)) (by simp)
  | cons x s ih =>
    cases b with
    | nil => exact absurd ((h x).1 (by simp)) (by simp)
    | cons y t =>
      obtain ⟨a1, a2⟩ := List.pairwise_cons.1 ha
      obtain ⟨b1, b2⟩ := List.pairwise_cons.1 hb
      have hxy : x = y := by
        rcases List.mem_cons.1 ((h x).1 (by simp)) with e | hx
        · exact e
        · rcases List.mem_cons.1 ((h y).2 (by simp)) with e | hy
          · exact e.symm
          · have := a1 y hy; have := b1 x hx; omega
      subst hxy
      congr 1
      refine ih a2 b2 (fun z => ?_)
      have hz := h z
      simp only [List.mem_cons] at hz
      constructor
      · intro hs
        rcases hz.1 (.inr hs) with e | ht
        · have := a1 z hs; omega
        · exact ht
      · intro ht
        rcases hz.2 (.inr ht) with e | hs
        · have := b1 z ht; omega
        · exact hs
theorem OffIs.one {x : Sail} {b : Bkg} {n : Nat} {l l' : List Int} (h : OffIs x b n l) (h' : OffIs x b n l') : l = l' := by
  refine sorted_ext h.up h'.up (fun z => ?_)
  constructor
  · intro hz
    have hb := h.lo z hz
    obtain ⟨c, rfl⟩ : ∃ c : Nat, z = c := ⟨z.toNat, by omega⟩
    exact (h'.iff c (by omega)).2 ((h.iff c (by omega)).1 hz)
  · intro hz
    have hb := h'.lo z hz
    obtain ⟨c, rfl⟩ : ∃ c : Nat, z = c := ⟨z.toNat, by omega⟩
    exact (h.iff c (by omega)).2 ((h'.iff c (by omega)).1 hz)
theorem OffIs.len {x : Sail} {b : Bkg} {n : Nat} {l : List Int} (h : OffIs x b n l) : l.length ≤ n := by
  have hnd : l.Nodup := by
    rw [List.nodup_iff_pairwise_ne]
    exact (List.pairwise_iff_getElem.2 fun i j hi hj hij => by have := List.pairwise_iff_getElem.1 h.up i j hi hj hij; omega)
  exact Ma.pigeon n l hnd (fun z hz => h.lo z hz)

/-- I2: what is wrong. -/
def P.offE (x : Sail) (g f t : Int) : Int := if P.btw g 1 4 = true then (if P.chk f t x.s.legs = 0 then (if x.lvs ≤ x.day then 4 else if 16 ≤ x.bks.length then 2 else 0) else P.chk f t x.s.legs) else 3
/-- Whom they are offered to. -/
def P.who (n g : Int) (lv : Bool) (f t : Int) : Bkg := ⟨n, 1, 2, g, lv, 0, 0, f, t, 0, []⟩
/-- I2: the errno, and the cabins. -/
def P.Offs (x : Sail) (g : Int) (lv : Bool) (f t r : Int) (l : List Int) : Prop := r = P.offE x g f t ∧ (¬ r = 0 → l = []) ∧ (r = 0 → ∃ n, LeastIs x.bks n ∧ OffIs x (P.who n g lv f t) x.s.bs.length l)
def P.OffS (x : Sail) (g : Int) (lv : Bool) (f t r : Int) (l : List Int) : Prop := (∃ q, P.SailE x q ∧ ¬ q = 0 ∧ r = q ∧ l = []) ∨ (P.SailE x 0 ∧ P.Offs x g lv f t r l)
theorem Offs.one {x : Sail} {g : Int} {lv : Bool} {f t r r' : Int} {l l' : List Int} (h : P.Offs x g lv f t r l) (h' : P.Offs x g lv f t r' l') : r = r' ∧ l = l' := by
  obtain ⟨rfl, h1, h2⟩ := h
  obtain ⟨rfl, k1, k2⟩ := h'
  refine ⟨rfl, ?_⟩
  by_cases h0 : P.offE x g f t = 0
  · obtain ⟨n, a1, a2⟩ := h2 h0
    obtain ⟨m, b1, b2⟩ := k2 h0
    obtain rfl := LeastIs.one a1 b1
    exact OffIs.one a2 b2
  · rw [h1 h0, k1 h0]
theorem OffS.one {x : Sail} {g : Int} {lv : Bool} {f t r r' : Int} {l l' : List Int} (h : P.OffS x g lv f t r l) (h' : P.OffS x g lv f t r' l') : r = r' ∧ l = l' := by
  rcases h with ⟨q, a1, a2, rfl, rfl⟩ | ⟨a1, a2⟩ <;> rcases h' with ⟨q', b1, b2, rfl, rfl⟩ | ⟨b1, b2⟩
  · exact ⟨SailE.one a1 b1, rfl⟩
  · exact absurd (SailE.one a1 b1) a2
  · exact absurd (SailE.one b1 a1) b2
  · exact Offs.one a2 b2
end Go.Proofs.YtlamhfbdeinkkaeGreat.St
namespace Go.Proofs.YtlamhfbdeinkkaeGreat.St
open Go.RowKit Bk
set_option linter.unusedSimpArgs false
set_option linter.unusedVariables false
set_option maxRecDepth 10000

abbrev W.sp2 (w : World) (f t : Int) : World := w.alloc (.cells #[.int .i64 f, .int .i64 t] 34)
end Go.Proofs.YtlamhfbdeinkkaeGreat.St
