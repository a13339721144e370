/- How ships, bookings and lists of bookings that are handed in read. -/
import Derived.Test.YtlamhfbdeinkkaeGreatBoAt
import Derived.ProofKit
import Derived.OpenShut
import Derived.ShutString
import Derived.ChangeOld
import Derived.Below
import Derived.SizedLaws
import Derived.Deep.SlicePairs
import Derived.Lib.SmallJoins
import Derived.Test.YtlamhfbdeinkkaeGreatFaAt
import Derived.Laws.CopyRow
import Derived.Test.YtlamhfbdeinkkaeGreatBoCt
import Derived.OwnWalk
namespace Go.Proofs.YtlamhfbdeinkkaeGreat.Bk
open Go.ChangeShapes Go.WideShapes Go.ChangeAt Go.RowKit Go.Deep Go.Joins
set_option linter.unusedSimpArgs false
set_option linter.unusedVariables false
set_option maxRecDepth 10000

theorem Tryz.own : ownKnob Tryz.prog.godebug = none := by kernel_rfl
theorem Tryz.laidOut : laidOutB Tryz.prog = true := by kernel_rfl
theorem Tryz.cellsInt : Tryz.prog.cellsOf 3 = 1 := by kernel_rfl
theorem Tryz.cellsCat : Tryz.prog.cellsOf 141 = 2 := by kernel_rfl
theorem Tryz.cellsCab : Tryz.prog.cellsOf 135 = 4 := by kernel_rfl
theorem Tryz.cellsShip : Tryz.prog.cellsOf 25 = 4 := by kernel_rfl
theorem Tryz.cellsStr : Tryz.prog.cellsOf 9 = 1 := by kernel_rfl
theorem Tryz.cellsBool : Tryz.prog.cellsOf 4 = 1 := by kernel_rfl
theorem Tryz.cellsInts : Tryz.prog.cellsOf 47 = 1 := by kernel_rfl
theorem Tryz.cellsEntry : Tryz.prog.cellsOf 59 = 3 := by kernel_rfl
theorem Tryz.cellsEntries : Tryz.prog.cellsOf 35 = 1 := by kernel_rfl
theorem Tryz.cellsSpan : Tryz.prog.cellsOf 34 = 2 := by kernel_rfl
theorem Tryz.cellsBk : Tryz.prog.cellsOf 37 = 11 := by kernel_rfl
theorem list2 {α : Type} {l : List α} (h : l.length = 2) : ∃ a b, l = [a, b] := by
  match l, h with
  | [a, b], _ => exact ⟨a, b, rfl⟩
theorem list3 {α : Type} {l : List α} (h : l.length = 3) : ∃ a b c, l = [a, b, c] := by
  match l, h with
  | [a, b, c], _ => exact ⟨a, b, c, rfl⟩
theorem list4 {α : Type} {l : List α} (h : l.length = 4) : ∃ a b c d, l = [a, b, c, d] := by
  match l, h with
  | [a, b, c, d], _ => exact ⟨a, b, c, d, rfl⟩
theorem list11 {α : Type} {l : List α} (h : l.length = 11) : ∃ a0 a1 a2 a3 a4 a5 a6 a7 a8 a9 a10, l = [a0, a1, a2, a3, a4, a5, a6, a7, a8, a9, a10] := by
  match l, h with
  | [a0, a1, a2, a3, a4, a5, a6, a7, a8, a9, a10], _ => exact ⟨a0, a1, a2, a3, a4, a5, a6, a7, a8, a9, a10, rfl⟩

section
variable {H : Type} {enc : TypeId × Value → H} {W : World}

/-- A struct, field by field. -/
theorem open_flds {t : TypeId} {fs : Array Field} {fuel : Nat} {cs : List Value} {x : DataW H × List MemPlace} (ht : Tryz.prog.underlying t = some (.struct fs)) (h : DataW.trod enc Tryz.prog W 0 (fun _ => true) true fuel t cs = some x) :
    ∃ n, ∀ (i : Nat) (t' : TypeId) (o c : Nat), (fs[i]?.map fun f => (f.type, f.offset)) = some (t', o) → Tryz.prog.cellsOf t' = c → ∃ y, DataW.trod enc Tryz.prog W 0 (fun _ => true) true n t' ((cs.drop o).take c) = some y := by
  obtain ⟨xs, n, _, _, _, hlen, hf⟩ := DataW.trod_struct ht h
  refine ⟨n, fun i t' o c hi0 hc => ?_⟩
  obtain ⟨f, hi, e⟩ := Option.map_eq_some_iff.1 hi0
  simp only [Prod.mk.injEq] at e
  obtain ⟨rfl, rfl⟩ := e
  subst hc
  have h1 := hf i f hi
  have hlt : i < xs.length := by rw [hlen]; exact (Array.getElem?_eq_some_iff.1 hi).1
  rw [List.getElem?_eq_getElem hlt] at h1
  exact ⟨_, h1⟩

theorem open_int' {base : Nat} {v : Value} {d : DataW H} {ps : List MemPlace}
    (hv : Value.okWide Tryz.prog W .any base 3 v) (h : DataW.Trod enc Tryz.prog W 0 (fun _ => true) true 3 v d ps) : ∃ n, v = .int .i64 n := by
  obtain ⟨n, rfl, _, _, _⟩ := open_int Tryz.underlying3 hv h
  exact ⟨n, rfl⟩
theorem open_ints {n : Nat} {cs : List Value} {x : DataW H × List MemPlace} (h : DataW.trod enc Tryz.prog W 0 (fun _ => true) true n 47 cs = some x) : ∃ ao cap l, cs = [.slice ao l.length cap] ∧ IntsAt W ao cap l :=
  open_sl (size := 1) Tryz.underlying47 Tryz.cellsInt (by omega) (fun n cs' y _ h => by
    obtain ⟨k, e, _⟩ := DataW.trod_int Tryz.underlying3 h
    exact ⟨k, e⟩) h
theorem open_cat {n : Nat} {cs : List Value} {x : DataW H × List MemPlace} (hl : cs.length = 2) (h : DataW.trod enc Tryz.prog W 0 (fun _ => true) true n 141 cs = some x) : ∃ z, Sh.RCat W z cs := by
  obtain ⟨y0, y1, m, _, _, h0, h1⟩ := trod_struct2 Tryz.underlying141 h
  obtain ⟨a, b, rfl⟩ := list2 hl
  simp only [Tryz.cellsStr, Tryz.cellsInts] at h0 h1
  obtain ⟨s, e0, _, hs⟩ := DataW.trod_string Tryz.underlying9 h0
  obtain ⟨ao, cap, l, e1, h3⟩ := open_ints h1
  simp at e0 e1
  subst e0 e1
  exact ⟨(s, l), ao, cap, rfl, h3, hs⟩
theorem open_cab {n : Nat} {cs : List Value} {x : DataW H × List MemPlace} (hl : cs.length = 4) (h : DataW.trod enc Tryz.prog W 0 (fun _ => true) true n 135 cs = some x) : ∃ z, Sh.RCab W z cs := by
  obtain ⟨y0, y1, y2, y3, m, _, _, h0, h1, h2, h3⟩ := trod_struct4 Tryz.underlying135 h
  obtain ⟨a, b, c, d, rfl⟩ := list4 hl
  simp only [Tryz.cellsStr, Tryz.cellsInt, Tryz.cellsBool] at h0 h1 h2 h3
  obtain ⟨s, e0, _, hs⟩ := DataW.trod_string Tryz.underlying9 h0
  obtain ⟨p, e1, _⟩ := DataW.trod_int Tryz.underlying3 h1
  obtain ⟨q, e2, _⟩ := DataW.trod_int Tryz.underlying3 h2
  obtain ⟨r, e3, _⟩ := DataW.trod_bool Tryz.underlying4 h3
  simp at e0 e1 e2 e3
  subst e0 e1 e2 e3
  exact ⟨(s, p, q, r), rfl, hs⟩
theorem open_ent {n : Nat} {cs : List Value} {x : DataW H × List MemPlace} (hl : cs.length = 3) (h : DataW.trod enc Tryz.prog W 0 (fun _ => true) true n 59 cs = some x) : ∃ z, Fo.REnt W z cs := by
  obtain ⟨n, hx⟩ := open_flds Tryz.underlying59 h
  obtain ⟨y0, h0⟩ := hx 0 3 0 1 rfl Tryz.cellsInt
  obtain ⟨y1, h1⟩ := hx 1 3 1 1 rfl Tryz.cellsInt
  obtain ⟨y2, h2⟩ := hx 2 3 2 1 rfl Tryz.cellsInt
  obtain ⟨a, b, c, rfl⟩ := list3 hl
  obtain ⟨p, e0, _⟩ := DataW.trod_int Tryz.underlying3 h0
  obtain ⟨q, e1, _⟩ := DataW.trod_int Tryz.underlying3 h1
  obtain ⟨r, e2, _⟩ := DataW.trod_int Tryz.underlying3 h2
  simp at e0 e1 e2
  subst e0 e1 e2
  exact ⟨(p, q, r), rfl⟩
theorem open_bk {n : Nat} {cs : List Value} {x : DataW H × List MemPlace} (hl : cs.length = 11) (h : DataW.trod enc Tryz.prog W 0 (fun _ => true) true n 37 cs = some x) : ∃ z, RBk W z cs := by
  obtain ⟨n, hx⟩ := open_flds Tryz.underlying37 h
  obtain ⟨y0, h0⟩ := hx 0 3 0 1 rfl Tryz.cellsInt
  obtain ⟨y1, h1⟩ := hx 1 3 1 1 rfl Tryz.cellsInt
  obtain ⟨y2, h2⟩ := hx 2 3 2 1 rfl Tryz.cellsInt
  obtain ⟨y3, h3⟩ := hx 3 3 3 1 rfl Tryz.cellsInt
  obtain ⟨y4, h4⟩ := hx 4 4 4 1 rfl Tryz.cellsBool
  obtain ⟨y5, h5⟩ := hx 5 3 5 1 rfl Tryz.cellsInt
  obtain ⟨y6, h6⟩ := hx 6 3 6 1 rfl Tryz.cellsInt
  obtain ⟨y7, h7⟩ := hx 7 34 7 2 rfl Tryz.cellsSpan
  obtain ⟨y8, h8⟩ := hx 8 3 9 1 rfl Tryz.cellsInt
  obtain ⟨y9, h9⟩ := hx 9 35 10 1 rfl Tryz.cellsEntries
  obtain ⟨a0, a1, a2, a3, a4, a5, a6, a7, a8, a9, a10, rfl⟩ := list11 hl
  obtain ⟨p0, e0, _⟩ := DataW.trod_int Tryz.underlying3 h0
  obtain ⟨p1, e1, _⟩ := DataW.trod_int Tryz.underlying3 h1
  obtain ⟨p2, e2, _⟩ := DataW.trod_int Tryz.underlying3 h2
  obtain ⟨p3, e3, _⟩ := DataW.trod_int Tryz.underlying3 h3
  obtain ⟨p4, e4, _⟩ := DataW.trod_bool Tryz.underlying4 h4
  obtain ⟨p5, e5, _⟩ := DataW.trod_int Tryz.underlying3 h5
  obtain ⟨p6, e6, _⟩ := DataW.trod_int Tryz.underlying3 h6
  obtain ⟨z0, z1, m, _, _, g0, g1⟩ := trod_struct2 Tryz.underlying34 h7
  simp only [Tryz.cellsInt] at g0 g1
  obtain ⟨p7, e7, _⟩ := DataW.trod_int Tryz.underlying3 g0
  obtain ⟨p8, e8, _⟩ := DataW.trod_int Tryz.underlying3 g1
  obtain ⟨p9, e9, _⟩ := DataW.trod_int Tryz.underlying3 h8
  obtain ⟨fo, fc, l, e10, hs⟩ := open_sl (R := Fo.REnt) (size := 3) Tryz.underlying35 Tryz.cellsEntry (by decide) (fun n cs' y hlen hy => open_ent hlen hy) h9
  simp at e0 e1 e2 e3 e4 e5 e6 e7 e8 e9 e10
  subst e0 e1 e2 e3 e4 e5 e6 e7 e8 e9 e10
  exact ⟨⟨p0, p1, p2, p3, p4, p5, p6, p7, p8, p9, l⟩, fo, fc, rfl, hs⟩
theorem lt_of_trod {t : TypeId} {v : Value} {d : DataW H} {ps : List MemPlace} (h : DataW.Trod enc Tryz.prog W 0 (fun _ => true) true t v d ps) : ∀ x ∈ ps, x.block < W.heap.size := by
  obtain ⟨m, hm⟩ := h
  exact DataW.trod_lt m _ _ _ hm
end

end Go.Proofs.YtlamhfbdeinkkaeGreat.Bk
namespace Go.Proofs.YtlamhfbdeinkkaeGreat.St
open Go.RowKit Bk
set_option linter.unusedSimpArgs false
set_option linter.unusedVariables false
set_option maxRecDepth 10000

/-- A sailing; where its lists lie. -/
structure Sail where
  s : Vsl
  L : List (List Int)
  al : Int
  th : Int
  B : List (Int × Int)
  dn : Int
  day : Int
  lvs : Int
  bks : List Bkg
  cl : Bool
structure SailA where
  v : VslA
  lo : Option Addr
  bo : Option Addr
  lc : Nat
  bc : Nat
  ao : Option Addr
  cap : Nat
abbrev V.sail (x : Sail) (a : SailA) : Value :=
  .agg #[.int .i64 x.s.legs, .int .i64 x.s.souls, .slice a.v.cao x.s.cs.length a.v.cc, .slice a.v.bao x.s.bs.length a.v.bc, .slice a.lo x.L.length a.lc, .int .i64 x.al, .int .i64 x.th, .slice a.bo x.B.length a.bc, .int .i64 x.dn, .int .i64 x.day, .int .i64 x.lvs, .slice a.ao x.bks.length a.cap, .bool x.cl]
structure SailAt (w : World) (x : Sail) (a : SailA) : Prop where
  ship : VslAt w x.s a.v
  fare : Fo.FareAt w a.lo a.bo a.lc a.bc x.L x.B
  bks : BksAt w a.ao a.cap x.bks
theorem SailAt.below {w w' : World} {x : Sail} {a : SailA} (h : SailAt w x a) (hb : Below w.heap.size w w') : SailAt w' x a := ⟨h.ship.below hb, h.fare.below hb, SlAt.below RBk.mono h.bks hb⟩

/-- A sailing in a block of its own. -/
structure SBox (w : World) (g : Nat) (x : Sail) (a : SailA) : Prop where
  c0 : w.cell? ⟨g, 0, none⟩ = some (.int .i64 x.s.legs)
  c1 : w.cell? ⟨g, 1, none⟩ = some (.int .i64 x.s.souls)
  c2 : w.cell? ⟨g, 2, none⟩ = some (.slice a.v.cao x.s.cs.length a.v.cc)
  c3 : w.cell? ⟨g, 3, none⟩ = some (.slice a.v.bao x.s.bs.length a.v.bc)
  c4 : w.cell? ⟨g, 4, none⟩ = some (.slice a.lo x.L.length a.lc)
  c5 : w.cell? ⟨g, 5, none⟩ = some (.int .i64 x.al)
  c6 : w.cell? ⟨g, 6, none⟩ = some (.int .i64 x.th)
  c7 : w.cell? ⟨g, 7, none⟩ = some (.slice a.bo x.B.length a.bc)
  c8 : w.cell? ⟨g, 8, none⟩ = some (.int .i64 x.dn)
  c9 : w.cell? ⟨g, 9, none⟩ = some (.int .i64 x.day)
  c10 : w.cell? ⟨g, 10, none⟩ = some (.int .i64 x.lvs)
  c11 : w.cell? ⟨g, 11, none⟩ = some (.slice a.ao x.bks.length a.cap)
  c12 : w.cell? ⟨g, 12, none⟩ = some (.bool x.cl)
theorem SBox.below {w w' : World} {g : Nat} {x : Sail} {a : SailA} (h : SBox w g x a) (hb : Below w.heap.size w w') : SBox w' g x a :=
  ⟨cellIn hb h.c0, cellIn hb h.c1, cellIn hb h.c2, cellIn hb h.c3, cellIn hb h.c4, cellIn hb h.c5, cellIn hb h.c6, cellIn hb h.c7, cellIn hb h.c8, cellIn hb h.c9, cellIn hb h.c10, cellIn hb h.c11, cellIn hb h.c12⟩
theorem SBox.lt {w : World} {g : Nat} {x : Sail} {a : SailA} (h : SBox w g x a) : g < w.heap.size := World.block_lt_of_cell? w _ h.c0
abbrev W.sail (w : World) (x : Sail) (a : SailA) : World :=
  w.alloc (.cells #[.int .i64 x.s.legs, .int .i64 x.s.souls, .slice a.v.cao x.s.cs.length a.v.cc, .slice a.v.bao x.s.bs.length a.v.bc, .slice a.lo x.L.length a.lc, .int .i64 x.al, .int .i64 x.th, .slice a.bo x.B.length a.bc, .int .i64 x.dn, .int .i64 x.day, .int .i64 x.lvs, .slice a.ao x.bks.length a.cap, .bool x.cl] 32)
theorem SBox.new (w : World) (x : Sail) (a : SailA) : SBox (W.sail w x a) w.heap.size x a :=
  ⟨by simp, by simp, by simp, by simp, by simp, by simp, by simp, by simp, by simp, by simp, by simp, by simp, by simp⟩
theorem sail_below (w : World) (x : Sail) (a : SailA) : Below w.heap.size w (W.sail w x a) := by go_grown

/-- A live promise without a cabin. -/
def P.opn (b : Bkg) : Bool := decide (b.kind = 2) && decide (b.state ≠ 3) && decide (b.cabin < 0)

set_option maxHeartbeats 1000000 in
theorem isOpen_any (b : Bkg) (fo : Option Addr) (fc : Nat) (w : World) :
    Calls Tryz.prog 89 #[V.bk b fo fc] w fun e w' => e = .returned (.bool (P.opn b)) ∧ Below w.heap.size w w' := by
  cases h1 : (b.kind == 2)
  · go_enter Tryz.func89, Tryz.ntmps89
    go_wp2
    go_ret
    exact ⟨ret_bool (by simp at h1; simp [P.opn, h1]), by go_grown⟩
  · cases h2 : (b.state != 3)
    · go_enter Tryz.func89, Tryz.ntmps89
      go_wp2
      go_ret
      exact ⟨ret_bool (by simp at h1 h2; simp [P.opn, h1, h2]), by go_grown⟩
    · go_enter Tryz.func89, Tryz.ntmps89
      go_wp2
      go_ret
      exact ⟨ret_bool (by simp at h1 h2; simp [P.opn, h1, h2]), by go_grown⟩

/-- The most of some numbers, at least 0. -/
def P.mst : Int → List Int → Int
  | m, [] => m
  | m, y :: r => P.mst (if m < y then y else m) r
theorem mst_le {n m : Int} {l : List Int} : P.mst m l ≤ n ↔ m ≤ n ∧ ∀ y ∈ l, y ≤ n := by
  induction l generalizing m with
  | nil => simp [P.mst]
  | cons y r ih =>
    rw [P.mst, ih]
    simp only [List.mem_cons, forall_eq_or_imp]
    by_cases hy : m < y
    · rw [if_pos hy]
      exact ⟨fun ⟨a, b⟩ => ⟨by omega, a, b⟩, fun ⟨_, a, b⟩ => ⟨a, b⟩⟩
    · rw [if_neg hy]
      exact ⟨fun ⟨a, b⟩ => ⟨a, by omega, b⟩, fun ⟨a, _, b⟩ => ⟨a, b⟩⟩

set_option maxHeartbeats 1000000 in
theorem most_any (ao : Option Addr) (cap : Nat) (l : List Int) (w : World) (hl : IntsAt w ao cap l) :
    Calls Tryz.prog 129 #[.slice ao l.length cap] w fun e w' => e = .returned (.int .i64 (P.mst 0 l)) ∧ Below w.heap.size w w' := by
  have hle := hl.le
  have hmx := hl.max
  unfold maxLen at hmx
  go_enter Tryz.func129, Tryz.ntmps129
  go_wp2
  go_loopg [3, 4] l.length (fun g v i wr => ∃ (k : Nat) (m : Int), k ≤ l.length ∧ g = l.length - k ∧ i = .int .i64 k ∧ v = .int .i64 m ∧ Aside (P.mst m (l.drop k) = P.mst 0 l) ∧ wr = w)
  case atStart => exact ⟨0, 0, Nat.zero_le _, rfl, rfl, rfl, rfl, rfl⟩
  case round =>
    obtain ⟨k, m, hk, rfl, rfl, rfl, HP, rfl⟩ := hrel
    by_cases hlt : k < l.length
    · obtain ⟨b, off, y, rfl, hbw, hd, hc0⟩ := IntsAt.get hl (Below.refl _ _) k hlt
      have HP2 : Aside (P.mst (if m < y then y else m) (l.drop (k + 1)) = P.mst 0 l) := by
        have h : P.mst m (l.drop k) = P.mst 0 l := HP
        rw [hd, P.mst] at h
        exact h
      clear hd HP
      have hkl : (k : Int) < l.length := by omega
      by_cases hy : m < y
      · rw [if_pos hy] at HP2
        go_wp2
        go_roundg (l.length - (k + 1))
        case measure => omega
        case rel => exact ⟨k + 1, y, by omega, rfl, by go_num, rfl, HP2, rfl⟩
      · rw [if_neg hy] at HP2
        go_wp2
        go_roundg (l.length - (k + 1))
        case measure => omega
        case rel => exact ⟨k + 1, m, by omega, rfl, by go_num, rfl, HP2, rfl⟩
    · obtain rfl : k = l.length := by omega
      have h : P.mst m (l.drop l.length) = P.mst 0 l := HP
      rw [List.drop_of_length_le (Nat.le_refl _), P.mst] at h
      have HH : Aside (m = P.mst 0 l) := h
      clear h HP
      go_wp2
      go_ret
      exact ⟨ret_int HH.out, Below.refl _ _⟩

end Go.Proofs.YtlamhfbdeinkkaeGreat.St
namespace Go.Proofs.YtlamhfbdeinkkaeGreat.Bk
open Go.ChangeShapes Go.WideShapes Go.ChangeAt Go.RowKit Go.Deep Go.Joins St
set_option linter.unusedSimpArgs false
set_option linter.unusedVariables false
set_option maxRecDepth 10000

theorem Tryz.cellsFares : Tryz.prog.cellsOf 29 = 5 := by kernel_rfl
theorem Tryz.cellsBand : Tryz.prog.cellsOf 143 = 2 := by kernel_rfl
theorem Tryz.cellsRows : Tryz.prog.cellsOf 26 = 1 := by kernel_rfl
theorem Tryz.cellsBands : Tryz.prog.cellsOf 27 = 1 := by kernel_rfl
theorem Tryz.cellsCats : Tryz.prog.cellsOf 22 = 1 := by kernel_rfl
theorem Tryz.cellsCabs : Tryz.prog.cellsOf 23 = 1 := by kernel_rfl
theorem Tryz.cellsBks : Tryz.prog.cellsOf 30 = 1 := by kernel_rfl
theorem Tryz.cellsSailing : Tryz.prog.cellsOf 32 = 13 := by kernel_rfl
theorem list13 {α : Type} {l : List α} (h : l.length = 13) : ∃ a0 a1 a2 a3 a4 a5 a6 a7 a8 a9 a10 a11 a12, l = [a0, a1, a2, a3, a4, a5, a6, a7, a8, a9, a10, a11, a12] := by
  match l, h with
  | [a0, a1, a2, a3, a4, a5, a6, a7, a8, a9, a10, a11, a12], _ => exact ⟨a0, a1, a2, a3, a4, a5, a6, a7, a8, a9, a10, a11, a12, rfl⟩
def cellsSail (x : Sail) (a : SailA) : List Value :=
  [.int .i64 x.s.legs, .int .i64 x.s.souls, .slice a.v.cao x.s.cs.length a.v.cc, .slice a.v.bao x.s.bs.length a.v.bc, .slice a.lo x.L.length a.lc, .int .i64 x.al, .int .i64 x.th, .slice a.bo x.B.length a.bc, .int .i64 x.dn, .int .i64 x.day, .int .i64 x.lvs, .slice a.ao x.bks.length a.cap, .bool x.cl]

section
variable {H : Type} {enc : TypeId × Value → H} {W : World}
theorem open_band {n : Nat} {cs : List Value} {x : DataW H × List MemPlace} (hl : cs.length = 2) (h : DataW.trod enc Tryz.prog W 0 (fun _ => true) true n 143 cs = some x) : ∃ z, Fo.RPair W z cs := by
  obtain ⟨y0, y1, m, _, _, h0, h1⟩ := trod_struct2 Tryz.underlying143 h
  obtain ⟨a, b, rfl⟩ := list2 hl
  simp only [Tryz.cellsInt] at h0 h1
  obtain ⟨p, e0, _⟩ := DataW.trod_int Tryz.underlying3 h0
  obtain ⟨q, e1, _⟩ := DataW.trod_int Tryz.underlying3 h1
  simp at e0 e1
  subst e0 e1
  exact ⟨(p, q), rfl⟩
theorem open_cells {n : Nat} {cs : List Value} {z : DataW H × List MemPlace} (hl : cs.length = 13) (h : DataW.trod enc Tryz.prog W 0 (fun _ => true) true n 32 cs = some z) : ∃ x a, cs = cellsSail x a ∧ SailAt W x a := by
  obtain ⟨n, hx⟩ := open_flds Tryz.underlying32 h
  obtain ⟨y0, h0⟩ := hx 0 25 0 4 rfl Tryz.cellsShip
  obtain ⟨y1, h1⟩ := hx 1 29 4 5 rfl Tryz.cellsFares
  obtain ⟨y2, h2⟩ := hx 2 3 9 1 rfl Tryz.cellsInt
  obtain ⟨y3, h3⟩ := hx 3 3 10 1 rfl Tryz.cellsInt
  obtain ⟨y4, h4⟩ := hx 4 30 11 1 rfl Tryz.cellsBks
  obtain ⟨y5, h5⟩ := hx 5 4 12 1 rfl Tryz.cellsBool
  obtain ⟨a0, a1, a2, a3, a4, a5, a6, a7, a8, a9, a10, a11, a12, rfl⟩ := list13 hl
  obtain ⟨n0, g⟩ := open_flds Tryz.underlying25 h0
  obtain ⟨_, g0⟩ := g 0 3 0 1 rfl Tryz.cellsInt
  obtain ⟨_, g1⟩ := g 1 3 1 1 rfl Tryz.cellsInt
  obtain ⟨_, g2⟩ := g 2 22 2 1 rfl Tryz.cellsCats
  obtain ⟨_, g3⟩ := g 3 23 3 1 rfl Tryz.cellsCabs
  obtain ⟨n1, f⟩ := open_flds Tryz.underlying29 h1
  obtain ⟨_, f0⟩ := f 0 26 0 1 rfl Tryz.cellsRows
  obtain ⟨_, f1⟩ := f 1 3 1 1 rfl Tryz.cellsInt
  obtain ⟨_, f2⟩ := f 2 3 2 1 rfl Tryz.cellsInt
  obtain ⟨_, f3⟩ := f 3 27 3 1 rfl Tryz.cellsBands
  obtain ⟨_, f4⟩ := f 4 3 4 1 rfl Tryz.cellsInt
  obtain ⟨legs, e0, _⟩ := DataW.trod_int Tryz.underlying3 g0
  obtain ⟨souls, e1, _⟩ := DataW.trod_int Tryz.underlying3 g1
  obtain ⟨cao, cc, cs, e2, hc⟩ := open_sl (size := 2) (R := Sh.RCat) Tryz.underlying22 Tryz.cellsCat (by omega) (fun n cs' y hl h => open_cat hl h) g2
  obtain ⟨bao, bc, bs, e3, hb⟩ := open_sl (size := 4) (R := Sh.RCab) Tryz.underlying23 Tryz.cellsCab (by omega) (fun n cs' y hl h => open_cab hl h) g3
  obtain ⟨lo, lc, L, e4, hL⟩ := open_sl (size := 1) (R := Fo.RRow) Tryz.underlying26 Tryz.cellsInts (by omega) (fun n cs' y hl h => by
    obtain ⟨ao, cap, l, e, hi⟩ := open_ints h
    exact ⟨l, ao, cap, e, hi⟩) f0
  obtain ⟨al, e5, _⟩ := DataW.trod_int Tryz.underlying3 f1
  obtain ⟨th, e6, _⟩ := DataW.trod_int Tryz.underlying3 f2
  obtain ⟨bo, bc', B, e7, hB⟩ := open_sl (size := 2) (R := Fo.RPair) Tryz.underlying27 Tryz.cellsBand (by omega) (fun n cs' y hl h => open_band hl h) f3
  obtain ⟨dn, e8, _⟩ := DataW.trod_int Tryz.underlying3 f4
  obtain ⟨day, e9, _⟩ := DataW.trod_int Tryz.underlying3 h2
  obtain ⟨lvs, e10, _⟩ := DataW.trod_int Tryz.underlying3 h3
  haveI : Inhabited Bkg := ⟨⟨0, 0, 0, 0, false, 0, 0, 0, 0, 0, []⟩⟩
  obtain ⟨ao, cap, l, e11, hl2⟩ := open_sl (R := RBk) (size := 11) Tryz.underlying30 Tryz.cellsBk (by decide) (fun n cs' y hlen hy => open_bk hlen hy) h4
  obtain ⟨cl, e12, _⟩ := DataW.trod_bool Tryz.underlying4 h5
  simp at e0 e1 e2 e3 e4 e5 e6 e7 e8 e9 e10 e11 e12
  subst e0 e1 e2 e3 e4 e5 e6 e7 e8 e9 e10 e11 e12
  exact ⟨⟨⟨legs, souls, cs, bs⟩, L, al, th, B, dn, day, lvs, l, cl⟩, ⟨⟨cao, bao, cc, bc⟩, lo, bo, lc, bc', ao, cap⟩, rfl, ⟨hc, hb⟩, ⟨hL, hB⟩, hl2⟩
theorem open_sailing {base : Nat} {v : Value} {d : DataW H} {ps : List MemPlace} (hv : Value.okWide Tryz.prog W .any base 32 v) (h : DataW.Trod enc Tryz.prog W 0 (fun _ => true) true 32 v d ps) :
    ∃ x a, v = V.sail x a ∧ SailAt W x a := by
  obtain ⟨cs, rfl, hsz⟩ := okWide_struct Tryz.underlying32 hv
  obtain ⟨fuel, hf⟩ := h
  obtain ⟨x, a, hz, he⟩ := open_cells (by simpa [Value.cells] using hsz.trans Tryz.cellsSailing) hf
  refine ⟨x, a, ?_, he⟩
  have e : cs.toList = cellsSail x a := by simpa [Value.cells] using hz
  rw [show cs = (cellsSail x a).toArray by rw [← e]]
  rfl
end

end Go.Proofs.YtlamhfbdeinkkaeGreat.Bk
namespace Go.Proofs.YtlamhfbdeinkkaeGreat.St
open Go.RowKit Bk
set_option linter.unusedSimpArgs false
set_option linter.unusedVariables false
set_option maxRecDepth 10000

abbrev C.sail (x : Sail) (a : SailA) : Array Value :=
  #[.int .i64 x.s.legs, .int .i64 x.s.souls, .slice a.v.cao x.s.cs.length a.v.cc, .slice a.v.bao x.s.bs.length a.v.bc, .slice a.lo x.L.length a.lc, .int .i64 x.al, .int .i64 x.th, .slice a.bo x.B.length a.bc, .int .i64 x.dn, .int .i64 x.day, .int .i64 x.lvs, .slice a.ao x.bks.length a.cap, .bool x.cl]
theorem all_one {cs : List Value} (h : cs.all (·.oneCell') = true) : cs.toArray.all (·.oneCell') = true := by
  rw [Array.all_eq_true_iff_forall_mem]
  rw [List.all_eq_true] at h
  exact fun v hv => h v (by simpa using hv)
theorem sail_one (x : Sail) (a : SailA) : (C.sail x a).all (·.oneCell') = true := all_one (cs := [.int .i64 x.s.legs, .int .i64 x.s.souls, .slice a.v.cao x.s.cs.length a.v.cc, .slice a.v.bao x.s.bs.length a.v.bc, .slice a.lo x.L.length a.lc, .int .i64 x.al, .int .i64 x.th, .slice a.bo x.B.length a.bc, .int .i64 x.dn, .int .i64 x.day, .int .i64 x.lvs, .slice a.ao x.bks.length a.cap, .bool x.cl]) rfl
def rowB : TypeDesc → Bool
  | .struct _ => true
  | .array _ _ => true
  | _ => false
/-- A whole block. -/
def RowIs (w : World) (g : Nat) (cs : Array Value) : Prop := ∃ t, w.heap[g]? = some (.cells cs t (0, 0))
abbrev SRow (w : World) (g : Nat) (x : Sail) (a : SailA) : Prop := RowIs w g (C.sail x a)
theorem RowIs.lt {w : World} {g : Nat} {cs : Array Value} (h : RowIs w g cs) : g < w.heap.size := by
  obtain ⟨t, h⟩ := h
  exact (Array.getElem?_eq_some_iff.1 h).1
theorem RowIs.new (w : World) (cs : Array Value) (t : TypeId) : RowIs (w.alloc (.cells cs t)) w.heap.size cs := ⟨t, heap_alloc_new w _⟩
theorem RowIs.below {w w' : World} {g : Nat} {cs : Array Value} (h : RowIs w g cs) (hb : Below w.heap.size w w') : RowIs w' g cs := by
  have hl := h.lt
  obtain ⟨t, h⟩ := h
  exact ⟨t, by rw [hb.block g hl]; exact h⟩
theorem RowIs.low {w w' : World} {N g : Nat} {cs : Array Value} (h : RowIs w g cs) (hb : Below N w w') (hg : g < N) : RowIs w' g cs := by
  obtain ⟨t, h⟩ := h
  exact ⟨t, by rw [hb.block g hg]; exact h⟩
theorem RowIs.gr {w w' : World} {g : Nat} {cs : Array Value} {row : Option Nat} (h : RowIs w g cs) (hg : w.grownBy w' row) (hr : some g ≠ row) : RowIs w' g cs := by
  have hl := h.lt
  obtain ⟨t, h⟩ := h
  exact ⟨t, by rw [hg.block g hl hr]; exact h⟩
theorem RowIs.cell {w : World} {g : Nat} {cs : Array Value} (h : RowIs w g cs) (j : Nat) : w.cell? ⟨g, j, none⟩ = cs[j]? := by
  obtain ⟨t, h⟩ := h
  exact cell_of_row w g j cs t (0, 0) h
theorem RowIs.free {w : World} {g : Nat} {cs : Array Value} (h : RowIs w g cs) (j : Nat) : w.frozen? ⟨g, j, none⟩ = false := by
  obtain ⟨t, h⟩ := h
  simp [World.frozen?, h]
theorem SRow.box {w : World} {g : Nat} {x : Sail} {a : SailA} (h : SRow w g x a) : SBox w g x a :=
  ⟨h.cell 0, h.cell 1, h.cell 2, h.cell 3, h.cell 4, h.cell 5, h.cell 6, h.cell 7, h.cell 8, h.cell 9, h.cell 10, h.cell 11, h.cell 12⟩
theorem below_gr {B g : Nat} {w W0 w' : World} (h : Below B w W0) (hB : B ≤ W0.heap.size) (hg : W0.grownBy w' (some g)) (hb : B ≤ g) : Below B w w' :=
  h.grown hg hB (fun j hj => by cases hj; exact hb)

/-- A store of a whole value. -/
theorem wpList_stC {ops : Array Oper} {rest : List Oper} {o : Oper} {act : Act} {Q : Exit → Act → World → Prop} {w : World} (hgd : o.guard = none) (ty : TypeId) (x y : Operand) (ho : o.op = .store ty x y)
    (g : Nat) (old cells : Array Value) (hty : (Tryz.prog.info? ty).map (·.size) = some cells.size) (hx : act.eval x = .pointer (some ⟨g, 0, none⟩)) (hy : act.eval y = .agg cells) (hb : RowIs w g old) (hsz : old.size = cells.size) (h1 : cells.all (·.oneCell') = true)
    (h : ∀ w', RowIs w' g cells → w.grownBy w' (some g) → wpList Tryz.prog ops Q rest (act.put o.dst undef) w') : wpList Tryz.prog ops Q (o :: rest) act w := by
  obtain ⟨t, hg⟩ := hb
  refine wpList_store_row hgd ty x y ho g cells hx hy t old hg hty hsz h1 (h _ ⟨t, setRow_heap w g old _ t (0, 0) hg⟩ ?_)
  exact ⟨rfl, rfl, rfl, by simp, fun i hi hne => setRow_other w g i _ (fun e => hne (by rw [e]))⟩
theorem Tryz.sizeSail : (Tryz.prog.info? 32).map (·.size) = some 13 := by kernel_rfl
theorem Tryz.sizeBg : (Tryz.prog.info? 37).map (·.size) = some 11 := by kernel_rfl

/-- What is answered out of a block. -/
theorem res1 {fn : Func} {p : Tmp} {ty : TypeId} (h : fn.results = #[.cell p ty]) {tmps : Array Value} {w : World} {g : Nat} {cs : Array Value} (hb : RowIs w g cs) (d : TypeDesc) (hp : tmps.getD p undef = .pointer (some ⟨g, 0, none⟩))
    (hu : Tryz.prog.underlying ty = some d) (hd : rowB d = true) (hi : (Tryz.prog.info? ty).map (·.size) = some cs.size) : (results fn tmps).run Tryz.prog w = .ok (.agg cs) w := by
  obtain ⟨t, hg⟩ := hb
  exact results_cell_row h tmps w g t cs (0, 0) d hp hg hu (by cases d <;> first | rfl | exact hd) hi
theorem res2 {fn : Func} {p q : Tmp} {ty : TypeId} (h : fn.results = #[.cell p ty, .tmp q]) {tmps : Array Value} {w : World} {g : Nat} {cs : Array Value} {v : Value} (hb : RowIs w g cs) (d : TypeDesc) (hp : tmps.getD p undef = .pointer (some ⟨g, 0, none⟩)) (hq : tmps.getD q undef = v)
    (hu : Tryz.prog.underlying ty = some d) (hd : rowB d = true) (hi : (Tryz.prog.info? ty).map (·.size) = some cs.size) : (results fn tmps).run Tryz.prog w = .ok (.tuple #[.agg cs, v]) w := by
  obtain ⟨t, hg⟩ := hb
  have hp' : tmps[p]?.getD undef = .pointer (some ⟨g, 0, none⟩) := by simpa using hp
  have hq' : tmps[q]?.getD undef = v := by simpa using hq
  simp [results, h, hp', hq', asAddr, run_loadVar_row w g t ty cs (0, 0) d hg hu (by cases d <;> first | rfl | exact hd) hi]

end Go.Proofs.YtlamhfbdeinkkaeGreat.St
namespace Go.Proofs.YtlamhfbdeinkkaeGreat.St
open Go.RowKit Bk
set_option linter.unusedSimpArgs false
set_option linter.unusedVariables false
set_option maxRecDepth 10000

def cellsI (n : Int) : List Value := [.int .i64 n]
def cellsG (x : Int × Int) : List Value := [.int .i64 x.1, .int .i64 x.2]
theorem cellsI_len (n : Int) : (cellsI n).length = 1 := rfl
theorem cellsG_len (x : Int × Int) : (cellsG x).length = 2 := rfl
theorem cellsI_one (n : Int) : ∀ u ∈ cellsI n, u.oneCell' = true := by simp [cellsI]; rfl
theorem cellsG_one (x : Int × Int) : ∀ u ∈ cellsG x, u.oneCell' = true := by simp [cellsG]; exact ⟨rfl, rfl⟩
abbrev OwnJ (w : World) (base : Nat) (v : Value) (l : List Int) : Prop := OwnC cellsI 1 3 w base v l
abbrev OwnG (w : World) (base : Nat) (v : Value) (l : List (Int × Int)) : Prop := OwnC cellsG 2 85 w base v l
theorem Tryz.infoI : (Tryz.prog.info? 3).map (fun i => (i.zero, i.size, i.bytes)) = some (some (.int .i64 0), 1, 8) := by kernel_rfl
theorem Tryz.infoG : (Tryz.prog.info? 85).map (fun i => (i.zero, i.size, i.bytes)) = some (some (.agg #[.int .i64 0, .int .i64 0]), 2, 16) := by kernel_rfl
theorem OwnJ.at {w : World} {base : Nat} {v : Value} {l : List Int} (h : OwnJ w base v l) : ∃ ao cap, v = .slice ao l.length cap ∧ IntsAt w ao cap l := OwnC.at cellsI_len h
theorem wpList_app_int {ops : Array Oper} {rest : List Oper} {o : Oper} {a : Act} {Q : Exit → Act → World → Prop} {W0 : World} (hgd : o.guard = none) (s x : Operand)
    (ho : o.op = .call { callee := .builtin .append, args := #[s, x], argTypes := #[47, 47] }) (base : Nat) (v : Value) (l : List Int) (n : Int) (hs : a.eval s = v) (hown : OwnJ W0 base v l)
    (H : Nat) (hH : W0.heap.size = H) (hx : a.eval x = .slice (some ⟨H, 0, none⟩) 1 1) (hb : base ≤ W0.heap.size) (hn : l.length ≤ 1000000)
    (h : ∀ v' w', OwnJ w' base v' (l ++ [n]) → W0.grownBy w' v.ownBlock → wpList Tryz.prog ops Q rest (a.put o.dst v') w') : wpList Tryz.prog ops Q (o :: rest) a (W0.alloc (.cells #[.int .i64 n] 3)) :=
  wpList_app_one Tryz.infoI Tryz.underlying47 rfl (by decide) cellsI_len cellsI_one (by decide) hgd s x ho base v l n _ rfl hs hown H hH hx hb hn h
theorem wpList_app_edg {ops : Array Oper} {rest : List Oper} {o : Oper} {a : Act} {Q : Exit → Act → World → Prop} {W0 : World} (hgd : o.guard = none) (s x : Operand)
    (ho : o.op = .call { callee := .builtin .append, args := #[s, x], argTypes := #[65, 65] }) (base : Nat) (v : Value) (l : List (Int × Int)) (p q : Int) (hs : a.eval s = v) (hown : OwnG W0 base v l)
    (H : Nat) (hH : W0.heap.size = H) (hx : a.eval x = .slice (some ⟨H, 0, none⟩) 1 1) (hb : base ≤ W0.heap.size) (hn : l.length ≤ 1000000)
    (h : ∀ v' w', OwnG w' base v' (l ++ [(p, q)]) → W0.grownBy w' v.ownBlock → wpList Tryz.prog ops Q rest (a.put o.dst v') w') : wpList Tryz.prog ops Q (o :: rest) a (W0.alloc (.cells #[.int .i64 p, .int .i64 q] 85)) :=
  wpList_app_one Tryz.infoG Tryz.underlying65 rfl (by decide) cellsG_len cellsG_one (by decide) hgd s x ho base v l (p, q) _ rfl hs hown H hH hx hb hn h

/-- H2: may cabin c keep the promise b? -/
def P.elC (s : Vsl) (l : List Bkg) (b : Bkg) (c : Nat) : Bool := decide (P.mine c l = []) && P.elig s b c
def P.edgs (s : Vsl) (l : List Bkg) (i : Nat) (b : Bkg) (n : Nat) : List (Int × Int) := ((List.range n).filter (P.elC s l b)).map fun c => ((i : Int), ((c : Nat) : Int))
def P.pids (l : List Bkg) : List Int := (l.filter P.opn).map fun b => b.id
def P.pedg (s : Vsl) (l : List Bkg) : Nat → List Bkg → List (Int × Int)
  | _, [] => []
  | i, b :: t => if P.opn b = true then P.edgs s l i b s.bs.length ++ P.pedg s l (i + 1) t else P.pedg s l i t

theorem edgs_on (s : Vsl) (l : List Bkg) (i : Nat) (b : Bkg) (n : Nat) : P.edgs s l i b (n + 1) = P.edgs s l i b n ++ (if P.elC s l b n = true then [((i : Int), ((n : Nat) : Int))] else []) := by
  rw [P.edgs, List.range_succ, List.filter_append, List.map_append]
  congr 1
  cases h : P.elC s l b n <;> simp [List.filter_cons, h]
theorem edgs_len (s : Vsl) (l : List Bkg) (i : Nat) (b : Bkg) (n : Nat) : (P.edgs s l i b n).length ≤ n := by
  rw [P.edgs, List.length_map]
  have := List.length_filter_le (P.elC s l b) (List.range n)
  simpa using this
theorem pedg_snoc (s : Vsl) (l : List Bkg) (m : List Bkg) (b : Bkg) (i : Nat) : P.pedg s l i (m ++ [b]) = P.pedg s l i m ++ (if P.opn b = true then P.edgs s l (i + (m.filter P.opn).length) b s.bs.length else []) := by
  induction m generalizing i with
  | nil => simp [P.pedg]
  | cons x t ih =>
    rw [List.cons_append, P.pedg, P.pedg, List.filter_cons]
    cases h : P.opn x
    · simp [ih]
    · simp only [if_pos, List.length_cons]
      rw [ih, List.append_assoc]
      congr 3
      rw [show i + 1 + (t.filter P.opn).length = i + ((t.filter P.opn).length + 1) by omega]
theorem pedg_len (s : Vsl) (l m : List Bkg) (i : Nat) : (P.pedg s l i m).length ≤ m.length * s.bs.length := by
  induction m generalizing i with
  | nil => simp [P.pedg]
  | cons x t ih =>
    rw [P.pedg, List.length_cons, Nat.succ_mul]
    have h1 := ih i
    have h2 := ih (i + 1)
    have h3 := edgs_len s l i x s.bs.length
    split
    · rw [List.length_append]; omega
    · omega
theorem take_snoc' {α : Type} {l : List α} {x : α} {k : Nat} (hk : k < l.length) (hd : l.drop k = x :: l.drop (k + 1)) : l.take (k + 1) = l.take k ++ [x] := by
  have h1 := List.drop_eq_getElem_cons hk
  rw [hd] at h1
  simp only [List.cons.injEq] at h1
  rw [List.take_succ_eq_append_getElem hk, ← h1.1]
theorem pids_snoc (m : List Bkg) (b : Bkg) : P.pids (m ++ [b]) = P.pids m ++ (if P.opn b = true then [b.id] else []) := by
  rw [P.pids, P.pids, List.filter_append, List.map_append]
  congr 1
  cases h : P.opn b <;> simp [List.filter_cons, h]
theorem pids_len (m : List Bkg) : (P.pids m).length = (m.filter P.opn).length := by simp [P.pids]
theorem adds_len {n : Int} {acc r : List (Int × Int)} (h : P.addsE n acc r = 0) : (P.addsL n acc r).length = acc.length + r.length := by
  induction r generalizing acc with
  | nil => simp [P.addsL]
  | cons x r ih =>
    rw [P.addsE] at h
    rw [P.addsL]
    split at h
    · rename_i he
      rw [if_pos he, ih h, (Sp.add_ok he).2.2.2, Sp.ins_len, List.length_cons]
      omega
    · contradiction
theorem open_prom {s : Vsl} {b : Bkg} (h : P.bkE s b = 0) (ho : P.opn b = true) : 0 ≤ b.cat ∧ b.cat < s.cs.length := by
  obtain ⟨_, _, _, _, _, hk, _⟩ := bk_ok h
  simp [P.opn] at ho
  have := kind_prom hk ho.1.1
  exact ⟨this.1, this.2.1⟩

end Go.Proofs.YtlamhfbdeinkkaeGreat.St
