/- Sailings in memory; the reference: isOpen, most. -/
import Derived.Test.YtlamhfbdeinkkaeGreatBoAo
import Derived.Test.YtlamhfbdeinkkaeGreatFaAo
namespace Go.Proofs.YtlamhfbdeinkkaeGreat.St
open Go.RowKit Bk
set_option linter.unusedSimpArgs false
set_option linter.unusedVariables false
set_option maxRecDepth 10000

/-- A sailing; where its lists lie. -/
structure Sail where
  s : Vsl
  L : List (List Int)
  al : Int
  th : Int
  B : List (Int × Int)
  dn : Int
  day : Int
  lvs : Int
  bks : List Bkg
  cl : Bool
structure SailA where
  v : VslA
  lo : Option Addr
  bo : Option Addr
  lc : Nat
  bc : Nat
  ao : Option Addr
  cap : Nat
abbrev V.sail (x : Sail) (a : SailA) : Value :=
  .agg #[.int .i64 x.s.legs, .int .i64 x.s.souls, .slice a.v.cao x.s.cs.length a.v.cc, .slice a.v.bao x.s.bs.length a.v.bc, .slice a.lo x.L.length a.lc, .int .i64 x.al, .int .i64 x.th, .slice a.bo x.B.length a.bc, .int .i64 x.dn, .int .i64 x.day, .int .i64 x.lvs, .slice a.ao x.bks.length a.cap, .bool x.cl]
structure SailAt (w : World) (x : Sail) (a : SailA) : Prop where
  ship : VslAt w x.s a.v
  fare : Fo.FareAt w a.lo a.bo a.lc a.bc x.L x.B
  bks : BksAt w a.ao a.cap x.bks
theorem SailAt.below {w w' : World} {x : Sail} {a : SailA} (h : SailAt w x a) (hb : Below w.heap.size w w') : SailAt w' x a := ⟨h.ship.below hb, h.fare.below hb, SlAt.below RBk.mono h.bks hb⟩

/-- A sailing in a block of its own. -/
structure SBox (w : World) (g : Nat) (x : Sail) (a : SailA) : Prop where
  c0 : w.cell? ⟨g, 0, none⟩ = some (.int .i64 x.s.legs)
  c1 : w.cell? ⟨g, 1, none⟩ = some (.int .i64 x.s.souls)
  c2 : w.cell? ⟨g, 2, none⟩ = some (.slice a.v.cao x.s.cs.length a.v.cc)
  c3 : w.cell? ⟨g, 3, none⟩ = some (.slice a.v.bao x.s.bs.length a.v.bc)
  c4 : w.cell? ⟨g, 4, none⟩ = some (.slice a.lo x.L.length a.lc)
  c5 : w.cell? ⟨g, 5, none⟩ = some (.int .i64 x.al)
  c6 : w.cell? ⟨g, 6, none⟩ = some (.int .i64 x.th)
  c7 : w.cell? ⟨g, 7, none⟩ = some (.slice a.bo x.B.length a.bc)
  c8 : w.cell? ⟨g, 8, none⟩ = some (.int .i64 x.dn)
  c9 : w.cell? ⟨g, 9, none⟩ = some (.int .i64 x.day)
  c10 : w.cell? ⟨g, 10, none⟩ = some (.int .i64 x.lvs)
  c11 : w.cell? ⟨g, 11, none⟩ = some (.slice a.ao x.bks.length a.cap)
  c12 : w.cell? ⟨g, 12, none⟩ = some (.bool x.cl)
theorem SBox.below {w w' : World} {g : Nat} {x : Sail} {a : SailA} (h : SBox w g x a) (hb : Below w.heap.size w w') : SBox w' g x a :=
  ⟨cellIn hb h.c0, cellIn hb h.c1, cellIn hb h.c2, cellIn hb h.c3, cellIn hb h.c4, cellIn hb h.c5, cellIn hb h.c6, cellIn hb h.c7, cellIn hb h.c8, cellIn hb h.c9, cellIn hb h.c10, cellIn hb h.c11, cellIn hb h.c12⟩
theorem SBox.lt {w : World} {g : Nat} {x : Sail} {a : SailA} (h : SBox w g x a) : g < w.heap.size := World.block_lt_of_cell? w _ h.c0
abbrev W.sail (w : World) (x : Sail) (a : SailA) : World :=
  w.alloc (.cells #[.int .i64 x.s.legs, .int .i64 x.s.souls, .slice a.v.cao x.s.cs.length a.v.cc, .slice a.v.bao x.s.bs.length a.v.bc, .slice a.lo x.L.length a.lc, .int .i64 x.al, .int .i64 x.th, .slice a.bo x.B.length a.bc, .int .i64 x.dn, .int .i64 x.day, .int .i64 x.lvs, .slice a.ao x.bks.length a.cap, .bool x.cl] 32)
theorem SBox.new (w : World) (x : Sail) (a : SailA) : SBox (W.sail w x a) w.heap.size x a :=
  ⟨by simp, by simp, by simp, by simp, by simp, by simp, by simp, by simp, by simp, by simp, by simp, by simp, by simp⟩
theorem sail_below (w : World) (x : Sail) (a : SailA) : Below w.heap.size w (W.sail w x a) := by go_grown

/-- A live promise without a cabin. -/
def P.opn (b : Bkg) : Bool := decide (b.kind = 2) && decide (b.state ≠ 3) && decide (b.cabin < 0)

set_option maxHeartbeats 1000000 in
theorem isOpen_any (b : Bkg) (fo : Option Addr) (fc : Nat) (w : World) :
    Calls Tryz.prog 89 #[V.bk b fo fc] w fun e w' => e = .returned (.bool (P.opn b)) ∧ Below w.heap.size w w' := by
  cases h1 : (b.kind == 2)
  · go_enter Tryz.func89, Tryz.ntmps89
    go_wp2
    go_ret
    exact ⟨ret_bool (by simp at h1; simp [P.opn, h1]), by go_grown⟩
  · cases h2 : (b.state != 3)
    · go_enter Tryz.func89, Tryz.ntmps89
      go_wp2
      go_ret
      exact ⟨ret_bool (by simp at h1 h2; simp [P.opn, h1, h2]), by go_grown⟩
    · go_enter Tryz.func89, Tryz.ntmps89
      go_wp2
      go_ret
      exact ⟨ret_bool (by simp at h1 h2; simp [P.opn, h1, h2]), by go_grown⟩

/-- The most of some numbers, at least 0. -/
def P.mst : Int → List Int → Int
  | m, [] => m
  | m, y :: r => P.mst (if m < y then y else m) r
theorem mst_le {n m : Int} {l : List Int} : P.mst m l ≤ n ↔ m ≤ n ∧ ∀ y ∈ l, y ≤ n := by
  induction l generalizing m with
  | nil => simp [P.mst]
  | cons y r ih =>
    rw [P.mst, ih]
    simp only [List.mem_cons, forall_eq_or_imp]
    by_cases hy : m < y
    · rw [if_pos hy]
      exact ⟨fun ⟨a, b⟩ => ⟨by omega, a, b⟩, fun ⟨_, a, b⟩ => ⟨a, b⟩⟩
    · rw [if_neg hy]
      exact ⟨fun ⟨a, b⟩ => ⟨a, by omega, b⟩, fun ⟨a, _, b⟩ => ⟨a, b⟩⟩

set_option maxHeartbeats 1000000 in
theorem most_any (ao : Option Addr) (cap : Nat) (l : List Int) (w : World) (hl : IntsAt w ao cap l) :
    Calls Tryz.prog 129 #[.slice ao l.length cap] w fun e w' => e = .returned (.int .i64 (P.mst 0 l)) ∧ Below w.heap.size w w' := by
  have hle := hl.le
  have hmx := hl.max
  unfold maxLen at hmx
  go_enter Tryz.func129, Tryz.ntmps129
  go_wp2
  go_loopg [3, 4] l.length (fun g v i wr => ∃ (k : Nat) (m : Int), k ≤ l.length ∧ g = l.length - k ∧ i = .int .i64 k ∧ v = .int .i64 m ∧ Aside (P.mst m (l.drop k) = P.mst 0 l) ∧ wr = w)
  case atStart => exact ⟨0, 0, Nat.zero_le _, rfl, rfl, rfl, rfl, rfl⟩
  case round =>
    obtain ⟨k, m, hk, rfl, rfl, rfl, HP, rfl⟩ := hrel
    by_cases hlt : k < l.length
    · obtain ⟨b, off, y, rfl, hbw, hd, hc0⟩ := IntsAt.get hl (Below.refl _ _) k hlt
      have HP2 : Aside (P.mst (if m < y then y else m) (l.drop (k + 1)) = P.mst 0 l) := by
        have h : P.mst m (l.drop k) = P.mst 0 l := HP
        rw [hd, P.mst] at h
        exact h
      clear hd HP
      have hkl : (k : Int) < l.length := by omega
      by_cases hy : m < y
      · rw [if_pos hy] at HP2
        go_wp2
        go_roundg (l.length - (k + 1))
        case measure => omega
        case rel => exact ⟨k + 1, y, by omega, rfl, by go_num, rfl, HP2, rfl⟩
      · rw [if_neg hy] at HP2
        go_wp2
        go_roundg (l.length - (k + 1))
        case measure => omega
        case rel => exact ⟨k + 1, m, by omega, rfl, by go_num, rfl, HP2, rfl⟩
    · obtain rfl : k = l.length := by omega
      have h : P.mst m (l.drop l.length) = P.mst 0 l := HP
      rw [List.drop_of_length_le (Nat.le_refl _), P.mst] at h
      have HH : Aside (m = P.mst 0 l) := h
      clear h HP
      go_wp2
      go_ret
      exact ⟨ret_int HH.out, Below.refl _ _⟩

end Go.Proofs.YtlamhfbdeinkkaeGreat.St
