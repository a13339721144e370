/- Sailings in memory; the reference: isOpen, most. -/
import Derived.Test.YtlamhfbdeinkkaeGreatBoAs
import Derived.Test.YtlamhfbdeinkkaeGreatFaAs
namespace Go.Proofs.YtlamhfbdeinkkaeGreat.St
open Go.RowKit Bk
set_option linter.unusedSimpArgs false
set_option linter.unusedVariables false
set_option maxRecDepth 10000

/-- A sailing; where its lists lie. -/
structure Sail where
  s : Vsl
  L : List (List Int)
  al : Int
  th : Int
  B : List (Int × Int)
  dn : Int
  day : Int
  lvs : Int
  bks : List Bkg
  cl : Bool
structure SailA where
  v : VslA
  lo : Option Addr
  bo : Option Addr
  lc : Nat
  bc : Nat
  ao : Option Addr
  cap : Nat
abbrev V.sail (x : Sail) (a : SailA) : Value :=
  .agg #[.int .i64 x.s.legs, .int .i64 x.s.souls, .slice a.v.cao x.s.cs.length a.v.cc, .slice a.v.bao x.s.bs.length a.v.bc, .slice a.lo x.L.length a.lc, .int .i64 x.al, .int .i64 x.th, .slice a.bo x.B.length a.bc, .int .i64 x.dn, .int .i64 x.day, .int .i64 x.lvs, .slice a.ao x.bks.length a.cap, .bool x.cl]
structure SailAt (w : World) (x : Sail) (a : SailA) : Prop where
  ship : VslAt w x.s a.v
  fare : Fo.FareAt w a.lo a.bo a.lc a.bc x.L x.B
  bks : BksAt w a.ao a.cap x.bks
theorem SailAt.below {w w' : World} {x : Sail} {a : SailA} (h : SailAt w x a) (hb : Below w.heap.size w w') : SailAt w' x a := ⟨h.ship.below hb, h.fare.below hb, SlAt.below RBk.mono h.bks hb⟩

/-- A sailing in a block of its own. -/
structure SBox (w : World) (g : Nat) (x : Sail) (a : SailA) : Prop where
  c0 : w.cell? ⟨g, 0, none⟩ = some (.int .i64 x.s.legs)
  c1 : w.cell? ⟨g, 1, none⟩ = some (.int .i64 x.s.souls)
  c2 : w.cell? ⟨g, 2, none⟩ = some (.slice a.v.cao x.s.cs.length a.v.cc)
  c3 : w.cell? ⟨g, 3, none⟩ = some (.slice a.v.bao x.s.bs.length a.v.bc)
  c4 : w.cell? ⟨g, 4, none⟩ = some (.slice a.lo x.L.length a.lc)
  c5 : w.cell? ⟨g, 5, none⟩ = some (.int .i64 x.al)
  c6 : w.cell? ⟨g, 6, none⟩ = some (.int .i64 x.th)
  c7 : w.cell? ⟨g, 7, none⟩ = some (.slice a.bo x.B.length a.bc)
  c8 : w.cell? ⟨g, 8, none⟩ = some (.int .i64 x.dn)
  c9 : w.cell? ⟨g, 9, none⟩ = some (.int .i64 x.day)
  c10 : w.cell? ⟨g, 10, none⟩ = some (.int .i64 x.lvs)
  c11 : w.cell? ⟨g, 11, none⟩ = some (.slice a.ao x.bks.length a.cap)
  c12 : w.cell? ⟨g, 12, none⟩ = some (.bool x.cl)
theorem SBox.below {w w' : World} {g : Nat} {x : Sail} {a : SailA} (h : SBox w g x a) (hb : Below w.heap.size w w') : SBox w' g x a :=
  ⟨cellIn hb h.c0, cellIn hb h.c1, cellIn hb h.c2, cellIn hb h.c3, cellIn hb h.c4, cellIn hb h.c5, cellIn hb h.c6, cellIn hb h.c7, cellIn hb h.c8, cellIn hb h.c9, cellIn hb h.c10, cellIn hb h.c11, cellIn hb h.c12⟩
theorem SBox.lt {w : World} {g : Nat} {x : Sail} {a : SailA} (h : SBox w g x a) : g < w.heap.size := World.block_lt_of_cell? w _ h.c0
abbrev W.sail (w : World) (x : Sail) (a : SailA) : World :=
  w.alloc (.cells #[.int .i64 x.s.legs, .int .i64 x.s.souls, .slice a.v.cao x.s.cs.length a.v.cc, .slice a.v.bao x.s.bs.length a.v.bc, .slice a.lo x.L.length a.lc, .int .i64 x.al, .int .i64 x.th, .slice a.bo x.B.length a.bc, .int .i64 x.dn, .int .i64 x.day, .int .i64 x.lvs, .slice a.ao x.bks.length a.cap, .bool x.cl] 32)
theorem SBox.new (w : World) (x : Sail) (a : SailA) : SBox (W.sail w x a) w.heap.size x a :=
  ⟨by simp, by simp, by simp, by simp, by simp, by simp, by simp, by simp, by simp, by simp, by simp, by simp, by simp⟩
theorem sail_below (w : World) (x : Sail) (a : SailA) : Below w.heap.size w (W.sail w x a) := by go_grown

/-- A live promise without a cabin. -/
def P.opn (b : Bkg) : Bool := decide (b.kind = 2) && decide (b.state ≠ 3) && decide (b.cabin < 0)

/-- The most of some numbers, at least 0. -/
def P.mst : Int → List Int → Int
  | m, [] => m
  | m, y :: r => P.mst (if m < y then y else m) r
theorem mst_le {n m : Int} {l : List Int} : P.mst m l ≤ n ↔ m ≤ n ∧ ∀ y ∈ l, y ≤ n := by
  induction l generalizing m with
  | nil => simp [P.mst]
  | cons y r ih =>
    rw [P.mst, ih]
    simp only [List.mem_cons, forall_eq_or_imp]
    by_cases hy : m < y
    · rw [if_pos hy]
      exact ⟨fun ⟨a, b⟩ => ⟨by omega, a, b⟩, fun ⟨_, a, b⟩ => ⟨a, b⟩⟩
    · rw [if_neg hy]
      exact ⟨fun ⟨a, b⟩ => ⟨a, by omega, b⟩, fun ⟨a, _, b⟩ => ⟨a, b⟩⟩

end Go.Proofs.YtlamhfbdeinkkaeGreat.St
namespace Go.Proofs.YtlamhfbdeinkkaeGreat.St
open Go.RowKit Bk
set_option linter.unusedSimpArgs false
set_option linter.unusedVariables false
set_option maxRecDepth 10000

/-- The place of a number; -1: it is not there. -/
def P.bat (id : Int) : Nat → List Bkg → Int
  | _, [] => -1
  | i, b :: t => if b.id = id then i else P.bat id (i + 1) t
theorem bat_neg {id : Int} {i : Nat} {l : List Bkg} : P.bat id i l = -1 ↔ ∀ b ∈ l, b.id ≠ id := by
  induction l generalizing i with
  | nil => simp [P.bat]
  | cons b t ih =>
    rw [P.bat]
    split
    · rename_i h
      simp [h]
    · rename_i h
      rw [ih]
      simp [h]
theorem bat_range {id : Int} {i : Nat} {l : List Bkg} : P.bat id i l = -1 ∨ ((i : Int) ≤ P.bat id i l ∧ P.bat id i l < i + l.length) := by
  induction l generalizing i with
  | nil => left; rfl
  | cons b t ih =>
    rw [P.bat, List.length_cons]
    split
    · right; omega
    · rcases ih (i := i + 1) with h | h
      · left; exact h
      · right; omega

set_option maxHeartbeats 1000000 in
theorem bookingAt_any (x : Sail) (a : SailA) (id : Int) (w : World) (hs : SailAt w x a) :
    Calls Tryz.prog 13 #[V.sail x a, .int .i64 id] w fun e w' => e = .returned (.int .i64 (P.bat id 0 x.bks)) ∧ Below w.heap.size w w' := by
  have hle := hs.bks.le
  have hmx := hs.bks.max
  unfold maxLen at hmx
  have hsx := SBox.new w x a
  have hsb := sail_below w x a
  go_enter Tryz.func13, Tryz.ntmps13
  go_wp2
  go_loopg [5] x.bks.length (fun g i wr => ∃ (k : Nat), k ≤ x.bks.length ∧ g = x.bks.length - k ∧ i = .int .i64 k ∧ Aside (P.bat id k (x.bks.drop k) = P.bat id 0 x.bks) ∧ SBox wr w.heap.size x a ∧ Below w.heap.size w wr)
  case atStart => exact ⟨0, Nat.zero_le _, rfl, rfl, rfl, hsx, hsb⟩
  case round =>
    obtain ⟨k, hk, rfl, rfl, HP, hbx, hB⟩ := hrel
    have HBX : Aside (SBox wr w.heap.size x a) := hbx
    have c11 := hbx.c11
    clear hbx
    by_cases hlt : k < x.bks.length
    · obtain ⟨b, off, y, fo, fc, hao, hbw, hd, hy, hfy⟩ := BksAt.get hs.bks hB k hlt
      have h : P.bat id k (x.bks.drop k) = P.bat id 0 x.bks := HP
      rw [hd, P.bat] at h
      have HP2 : Aside ((if y.id = id then (k : Int) else P.bat id (k + 1) (x.bks.drop (k + 1))) = P.bat id 0 x.bks) := h
      rw [hao] at c11
      have y0 := hy.c0
      have hkl : (k : Int) < x.bks.length := by omega
      clear h hd HP hy hfy hao
      cases hy : (y.id == id)
      · have HP3 : Aside (P.bat id (k + 1) (x.bks.drop (k + 1)) = P.bat id 0 x.bks) := by have := HP2.out; rw [if_neg (by simpa using hy)] at this; exact this
        clear HP2
        go_wp2
        go_roundg (x.bks.length - (k + 1))
        case measure => omega
        case rel => exact ⟨k + 1, by omega, rfl, by go_num, HP3, HBX.out, hB⟩
      · have HP3 : Aside ((k : Int) = P.bat id 0 x.bks) := by have := HP2.out; rw [if_pos (by simpa using hy)] at this; exact this
        clear HP2
        go_wp2
        go_ret
        exact ⟨ret_int HP3.out, hB⟩
    · obtain rfl : k = x.bks.length := by omega
      have h : P.bat id x.bks.length (x.bks.drop x.bks.length) = P.bat id 0 x.bks := HP
      rw [List.drop_of_length_le (Nat.le_refl _), P.bat] at h
      have HP3 : Aside (-1 = P.bat id 0 x.bks) := h
      clear h HP
      go_wp2
      go_ret
      exact ⟨ret_int HP3.out, hB⟩

end Go.Proofs.YtlamhfbdeinkkaeGreat.St
