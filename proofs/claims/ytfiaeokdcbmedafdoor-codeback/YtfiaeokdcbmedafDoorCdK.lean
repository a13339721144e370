/- Walk of the reference's AskOf. -/
import Derived.Test.YtfiaeokdcbmedafDoorCdI
import Derived.Test.YtfiaeokdcbmedafDoorCdG
namespace Go.Proofs.YtfiaeokdcbmedafDoor
open Go.RowKit
set_option linter.unusedSimpArgs false
set_option linter.unusedVariables false

def P.parse : List Nat → List UInt8 → (Nat → Int) → Option (Nat → Int)
  | [], l, n => if l = [] then some n else none
  | p :: ps, l, n => if l.length < P.size p then none else if p = 6 ∧ 1 < P.wh (l.take (P.size p)) then none else P.parse ps (l.drop (P.size p)) (P.set n p (P.wh (l.take (P.size p))))
def P.parsed (l : List UInt8) : Option (Nat → Int) := if l.length < 3 ∨ P.btw (P.kindOf l) 1 8 = false then none else P.parse (P.names (P.kindOf l)) (l.drop 3) (fun _ => 0)
def P.askOfE (l : List UInt8) : Int := match P.parsed l with
  | none => 1
  | some n => P.askE (P.gath (P.kindOf l) (P.numberOf l) n)
def P.askOfA (l : List UInt8) : Ask := match P.parsed l with
  | none => P.zeroA
  | some n => if P.askE (P.gath (P.kindOf l) (P.numberOf l) n) = 0 then P.gath (P.kindOf l) (P.numberOf l) n else P.zeroA

theorem RowIs.put {w : World} {g j : Nat} {cs : Array Value} {v : Value} (h : RowIs w g cs) (hj : j < cs.size) : RowIs (w.setCell ⟨g, j, none⟩ v) g (cs.set j v hj) := by
  obtain ⟨t, h⟩ := h
  refine ⟨t, ?_⟩
  simp only [World.setCell, Array.getElem?_modify, if_pos, h, Option.map_some]
  simp [Array.setIfInBounds, hj]
theorem parse_on {p : Nat} {ps : List Nat} {l : List UInt8} {n : Nat → Int} (h1 : ¬ l.length < P.size p) (h2 : ¬ (p = 6 ∧ 1 < P.wh (l.take (P.size p)))) : P.parse (p :: ps) l n = P.parse ps (l.drop (P.size p)) (P.set n p (P.wh (l.take (P.size p)))) := by
  rw [P.parse, if_neg h1, if_neg h2]

theorem bytes_at (l : List UInt8) (k : Nat) (x : UInt8) (h : k < (ByteArray.mk l.toArray).size) (hx : l[k]? = some x) : (ByteArray.mk l.toArray)[k]'h = x := by
  simp [ByteArray.getElem_eq_getElem_data]
  rw [List.getElem?_eq_some_iff] at hx
  exact hx.2
theorem wrap_byte (x : UInt8) : wrap64 (x.toNat : Int) = (x.toNat : Int) := by
  have := x.toNat_lt
  unfold wrap64; omega

def P.offOf : Nat → Nat
  | 0 => 2
  | 1 => 3
  | 2 => 5
  | 3 => 6
  | 4 => 7
  | 5 => 8
  | 7 => 9
  | 8 => 10
  | _ => 4
theorem put_gath {w : World} {A : Nat} {K N : Int} {n : Nat → Int} (x : Nat) (v : Int) (hx : x ≠ 6) (hx9 : x < 9) (h : RowIs w A (C.ask (P.gath K N n))) : RowIs (w.setCell ⟨A, P.offOf x, none⟩ (.int .i64 v)) A (C.ask (P.gath K N (P.set n x v))) := by
  match x, hx, hx9 with
  | 0, _, _ => exact RowIs.put h (j := 2) (by show 2 < 11; decide)
  | 1, _, _ => exact RowIs.put h (j := 3) (by show 3 < 11; decide)
  | 2, _, _ => exact RowIs.put h (j := 5) (by show 5 < 11; decide)
  | 3, _, _ => exact RowIs.put h (j := 6) (by show 6 < 11; decide)
  | 4, _, _ => exact RowIs.put h (j := 7) (by show 7 < 11; decide)
  | 5, _, _ => exact RowIs.put h (j := 8) (by show 8 < 11; decide)
  | 7, _, _ => exact RowIs.put h (j := 9) (by show 9 < 11; decide)
  | 8, _, _ => exact RowIs.put h (j := 10) (by show 10 < 11; decide)
  | 6, h6, _ => exact absurd rfl h6
theorem put_level {w : World} {A : Nat} {K N : Int} {n : Nat → Int} (v : Nat) (hv : ¬ 1 < v) (h : RowIs w A (C.ask (P.gath K N n))) : RowIs (w.setCell ⟨A, 4, none⟩ (.bool ((v : Int) == 1))) A (C.ask (P.gath K N (P.set n 6 v))) := by
  have e : ((v : Int) == 1) = ((v : Int) != 0) := by
    rcases (show v = 0 ∨ v = 1 by omega) with rfl | rfl <;> rfl
  rw [e]
  exact RowIs.put h (j := 4) (by show 4 < 11; decide)
theorem below_set {B g o : Nat} {w w' : World} {v : Value} (h : Below B w w') (hg : B ≤ g) : Below B w (w'.setCell ⟨g, o, none⟩ v) :=
  ⟨h.os, h.tape, h.output, by rw [Go.Deep.nblk_setCell]; exact h.size, fun k hk => by rw [Go.Deep.blk_setCell_other _ _ _ _ (by simp; omega)]; exact h.block k hk⟩

theorem step_facts {l : List UInt8} {c j q : Nat} (hq : q = c + j) (hlt : q < l.length) (hj : j < 4) :
    ∃ b : UInt8, (∀ h, (ByteArray.mk l.toArray)[q]'h = b) ∧ 256 * (P.wh ((l.drop c).take j) : Int) + (b.toNat : Int) = (P.wh ((l.drop c).take (j + 1)) : Int)
      ∧ IntKind.i64.wrap (256 * (P.wh ((l.drop c).take j) : Int)) = 256 * (P.wh ((l.drop c).take j) : Int) ∧ IntKind.i64.wrap (256 * (P.wh ((l.drop c).take j) : Int) + (b.toNat : Int)) = 256 * (P.wh ((l.drop c).take j) : Int) + (b.toNat : Int) ∧ wrap64 (b.toNat : Int) = (b.toNat : Int) ∧ wrap64 (P.wh ((l.drop c).take (j + 1)) : Int) = (P.wh ((l.drop c).take (j + 1)) : Int) := by
  have hlen : j < (l.drop c).length := by rw [List.length_drop]; omega
  have hb := List.getElem?_eq_getElem hlen
  generalize (l.drop c)[j] = b at hb
  have hw := wh_lt4 ((l.drop c).take j) (by rw [List.length_take]; omega)
  have hbt : b.toNat < 256 := b.toNat_lt
  have hw2 := wh_lt4 ((l.drop c).take (j + 1)) (by rw [List.length_take]; omega)
  refine ⟨b, fun h => bytes_at l q b h (by rw [hq, ← List.getElem?_drop]; exact hb), ?_, ?_, ?_, wrap_byte b, by unfold wrap64; omega⟩
  · rw [← take_on hb, wh_snoc, Int.natCast_add, Int.natCast_mul, Int.mul_comm]; rfl
  · have := wrap_small (256 * P.wh ((l.drop c).take j)) (by omega)
    rw [Int.natCast_mul] at this
    exact this
  · have := wrap_small (256 * P.wh ((l.drop c).take j) + b.toNat) (by omega)
    rw [Int.natCast_add, Int.natCast_mul] at this
    exact this

end Go.Proofs.YtfiaeokdcbmedafDoor
