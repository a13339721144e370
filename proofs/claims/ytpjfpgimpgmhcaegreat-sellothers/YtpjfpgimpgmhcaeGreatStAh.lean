/- Sailings in memory; the reference: isOpen, most. -/
import Derived.Test.YtpjfpgimpgmhcaeGreatBoAh
import Derived.Test.YtpjfpgimpgmhcaeGreatFaAh
namespace Go.Proofs.YtpjfpgimpgmhcaeGreat.St
open Go.RowKit Bk
set_option linter.unusedSimpArgs false
set_option linter.unusedVariables false
set_option maxRecDepth 10000

/-- A sailing; where its lists lie. -/
structure Sail where
  s : Vsl
  L : List (List Int)
  al : Int
  th : Int
  B : List (Int × Int)
  dn : Int
  day : Int
  lvs : Int
  bks : List Bkg
  cl : Bool
structure SailA where
  v : VslA
  lo : Option Addr
  bo : Option Addr
  lc : Nat
  bc : Nat
  ao : Option Addr
  cap : Nat
abbrev V.sail (x : Sail) (a : SailA) : Value :=
  .agg #[.int .i64 x.s.legs, .int .i64 x.s.souls, .slice a.v.cao x.s.cs.length a.v.cc, .slice a.v.bao x.s.bs.length a.v.bc, .slice a.lo x.L.length a.lc, .int .i64 x.al, .int .i64 x.th, .slice a.bo x.B.length a.bc, .int .i64 x.dn, .int .i64 x.day, .int .i64 x.lvs, .slice a.ao x.bks.length a.cap, .bool x.cl]
structure SailAt (w : World) (x : Sail) (a : SailA) : Prop where
  ship : VslAt w x.s a.v
  fare : Fo.FareAt w a.lo a.bo a.lc a.bc x.L x.B
  bks : BksAt w a.ao a.cap x.bks
theorem SailAt.below {w w' : World} {x : Sail} {a : SailA} (h : SailAt w x a) (hb : Below w.heap.size w w') : SailAt w' x a := ⟨h.ship.below hb, h.fare.below hb, SlAt.below RBk.mono h.bks hb⟩

/-- A sailing in a block of its own. -/
structure SBox (w : World) (g : Nat) (x : Sail) (a : SailA) : Prop where
  c0 : w.cell? ⟨g, 0, none⟩ = some (.int .i64 x.s.legs)
  c1 : w.cell? ⟨g, 1, none⟩ = some (.int .i64 x.s.souls)
  c2 : w.cell? ⟨g, 2, none⟩ = some (.slice a.v.cao x.s.cs.length a.v.cc)
  c3 : w.cell? ⟨g, 3, none⟩ = some (.slice a.v.bao x.s.bs.length a.v.bc)
  c4 : w.cell? ⟨g, 4, none⟩ = some (.slice a.lo x.L.length a.lc)
  c5 : w.cell? ⟨g, 5, none⟩ = some (.int .i64 x.al)
  c6 : w.cell? ⟨g, 6, none⟩ = some (.int .i64 x.th)
  c7 : w.cell? ⟨g, 7, none⟩ = some (.slice a.bo x.B.length a.bc)
  c8 : w.cell? ⟨g, 8, none⟩ = some (.int .i64 x.dn)
  c9 : w.cell? ⟨g, 9, none⟩ = some (.int .i64 x.day)
  c10 : w.cell? ⟨g, 10, none⟩ = some (.int .i64 x.lvs)
  c11 : w.cell? ⟨g, 11, none⟩ = some (.slice a.ao x.bks.length a.cap)
  c12 : w.cell? ⟨g, 12, none⟩ = some (.bool x.cl)
theorem SBox.below {w w' : World} {g : Nat} {x : Sail} {a : SailA} (h : SBox w g x a) (hb : Below w.heap.size w w') : SBox w' g x a :=
  ⟨cellIn hb h.c0, cellIn hb h.c1, cellIn hb h.c2, cellIn hb h.c3, cellIn hb h.c4, cellIn hb h.c5, cellIn hb h.c6, cellIn hb h.c7, cellIn hb h.c8, cellIn hb h.c9, cellIn hb h.c10, cellIn hb h.c11, cellIn hb h.c12⟩
theorem SBox.lt {w : World} {g : Nat} {x : Sail} {a : SailA} (h : SBox w g x a) : g < w.heap.size := World.block_lt_of_cell? w _ h.c0
abbrev W.sail (w : World) (x : Sail) (a : SailA) : World :=
  w.alloc (.cells #[.int .i64 x.s.legs, .int .i64 x.s.souls, .slice a.v.cao x.s.cs.length a.v.cc, .slice a.v.bao x.s.bs.length a.v.bc, .slice a.lo x.L.length a.lc, .int .i64 x.al, .int .i64 x.th, .slice a.bo x.B.length a.bc, .int .i64 x.dn, .int .i64 x.day, .int .i64 x.lvs, .slice a.ao x.bks.length a.cap, .bool x.cl] 32)
theorem SBox.new (w : World) (x : Sail) (a : SailA) : SBox (W.sail w x a) w.heap.size x a :=
  ⟨by simp, by simp, by simp, by simp, by simp, by simp, by simp, by simp, by simp, by simp, by simp, by simp, by simp⟩
theorem sail_below (w : World) (x : Sail) (a : SailA) : Below w.heap.size w (W.sail w x a) := by go_grown

/-- A live promise without a cabin. -/
def P.opn (b : Bkg) : Bool := decide (b.kind = 2) && decide (b.state ≠ 3) && decide (b.cabin < 0)

/-- The most of some numbers, at least 0. -/
def P.mst : Int → List Int → Int
  | m, [] => m
  | m, y :: r => P.mst (if m < y then y else m) r
theorem mst_le {n m : Int} {l : List Int} : P.mst m l ≤ n ↔ m ≤ n ∧ ∀ y ∈ l, y ≤ n := by
  induction l generalizing m with
  | nil => simp [P.mst]
  | cons y r ih =>
    rw [P.mst, ih]
    simp only [List.mem_cons, forall_eq_or_imp]
    by_cases hy : m < y
    · rw [if_pos hy]
      exact ⟨fun ⟨a, b⟩ => ⟨by omega, a, b⟩, fun ⟨_, a, b⟩ => ⟨a, b⟩⟩
    · rw [if_neg hy]
      exact ⟨fun ⟨a, b⟩ => ⟨a, by omega, b⟩, fun ⟨a, _, b⟩ => ⟨a, b⟩⟩

end Go.Proofs.YtpjfpgimpgmhcaeGreat.St
