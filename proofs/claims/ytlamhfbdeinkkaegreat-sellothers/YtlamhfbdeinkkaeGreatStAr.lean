/- Sailings in memory; the reference: isOpen, most. -/
import Derived.Test.YtlamhfbdeinkkaeGreatBoAr
import Derived.Test.YtlamhfbdeinkkaeGreatFaAr
import Derived.Test.YtlamhfbdeinkkaeGreatOpenFr
namespace Go.Proofs.YtlamhfbdeinkkaeGreat.St
open Go.RowKit Bk
set_option linter.unusedSimpArgs false
set_option linter.unusedVariables false
set_option maxRecDepth 10000

/-- A sailing; where its lists lie. -/
structure Sail where
  s : Vsl
  L : List (List Int)
  al : Int
  th : Int
  B : List (Int × Int)
  dn : Int
  day : Int
  lvs : Int
  bks : List Bkg
  cl : Bool
structure SailA where
  v : VslA
  lo : Option Addr
  bo : Option Addr
  lc : Nat
  bc : Nat
  ao : Option Addr
  cap : Nat
abbrev V.sail (x : Sail) (a : SailA) : Value :=
  .agg #[.int .i64 x.s.legs, .int .i64 x.s.souls, .slice a.v.cao x.s.cs.length a.v.cc, .slice a.v.bao x.s.bs.length a.v.bc, .slice a.lo x.L.length a.lc, .int .i64 x.al, .int .i64 x.th, .slice a.bo x.B.length a.bc, .int .i64 x.dn, .int .i64 x.day, .int .i64 x.lvs, .slice a.ao x.bks.length a.cap, .bool x.cl]
structure SailAt (w : World) (x : Sail) (a : SailA) : Prop where
  ship : VslAt w x.s a.v
  fare : Fo.FareAt w a.lo a.bo a.lc a.bc x.L x.B
  bks : BksAt w a.ao a.cap x.bks
theorem SailAt.below {w w' : World} {x : Sail} {a : SailA} (h : SailAt w x a) (hb : Below w.heap.size w w') : SailAt w' x a := ⟨h.ship.below hb, h.fare.below hb, SlAt.below RBk.mono h.bks hb⟩

/-- A sailing in a block of its own. -/
structure SBox (w : World) (g : Nat) (x : Sail) (a : SailA) : Prop where
  c0 : w.cell? ⟨g, 0, none⟩ = some (.int .i64 x.s.legs)
  c1 : w.cell? ⟨g, 1, none⟩ = some (.int .i64 x.s.souls)
  c2 : w.cell? ⟨g, 2, none⟩ = some (.slice a.v.cao x.s.cs.length a.v.cc)
  c3 : w.cell? ⟨g, 3, none⟩ = some (.slice a.v.bao x.s.bs.length a.v.bc)
  c4 : w.cell? ⟨g, 4, none⟩ = some (.slice a.lo x.L.length a.lc)
  c5 : w.cell? ⟨g, 5, none⟩ = some (.int .i64 x.al)
  c6 : w.cell? ⟨g, 6, none⟩ = some (.int .i64 x.th)
  c7 : w.cell? ⟨g, 7, none⟩ = some (.slice a.bo x.B.length a.bc)
  c8 : w.cell? ⟨g, 8, none⟩ = some (.int .i64 x.dn)
  c9 : w.cell? ⟨g, 9, none⟩ = some (.int .i64 x.day)
  c10 : w.cell? ⟨g, 10, none⟩ = some (.int .i64 x.lvs)
  c11 : w.cell? ⟨g, 11, none⟩ = some (.slice a.ao x.bks.length a.cap)
  c12 : w.cell? ⟨g, 12, none⟩ = some (.bool x.cl)
theorem SBox.below {w w' : World} {g : Nat} {x : Sail} {a : SailA} (h : SBox w g x a) (hb : Below w.heap.size w w') : SBox w' g x a :=
  ⟨cellIn hb h.c0, cellIn hb h.c1, cellIn hb h.c2, cellIn hb h.c3, cellIn hb h.c4, cellIn hb h.c5, cellIn hb h.c6, cellIn hb h.c7, cellIn hb h.c8, cellIn hb h.c9, cellIn hb h.c10, cellIn hb h.c11, cellIn hb h.c12⟩
theorem SBox.lt {w : World} {g : Nat} {x : Sail} {a : SailA} (h : SBox w g x a) : g < w.heap.size := World.block_lt_of_cell? w _ h.c0
abbrev W.sail (w : World) (x : Sail) (a : SailA) : World :=
  w.alloc (.cells #[.int .i64 x.s.legs, .int .i64 x.s.souls, .slice a.v.cao x.s.cs.length a.v.cc, .slice a.v.bao x.s.bs.length a.v.bc, .slice a.lo x.L.length a.lc, .int .i64 x.al, .int .i64 x.th, .slice a.bo x.B.length a.bc, .int .i64 x.dn, .int .i64 x.day, .int .i64 x.lvs, .slice a.ao x.bks.length a.cap, .bool x.cl] 32)
theorem SBox.new (w : World) (x : Sail) (a : SailA) : SBox (W.sail w x a) w.heap.size x a :=
  ⟨by simp, by simp, by simp, by simp, by simp, by simp, by simp, by simp, by simp, by simp, by simp, by simp, by simp⟩
theorem sail_below (w : World) (x : Sail) (a : SailA) : Below w.heap.size w (W.sail w x a) := by go_grown

/-- A live promise without a cabin. -/
def P.opn (b : Bkg) : Bool := decide (b.kind = 2) && decide (b.state ≠ 3) && decide (b.cabin < 0)

/-- The most of some numbers, at least 0. -/
def P.mst : Int → List Int → Int
  | m, [] => m
  | m, y :: r => P.mst (if m < y then y else m) r
theorem mst_le {n m : Int} {l : List Int} : P.mst m l ≤ n ↔ m ≤ n ∧ ∀ y ∈ l, y ≤ n := by
  induction l generalizing m with
  | nil => simp [P.mst]
  | cons y r ih =>
    rw [P.mst, ih]
    simp only [List.mem_cons, forall_eq_or_imp]
    by_cases hy : m < y
    · rw [if_pos hy]
      exact ⟨fun ⟨a, b⟩ => ⟨by omega, a, b⟩, fun ⟨_, a, b⟩ => ⟨a, b⟩⟩
    · rw [if_neg hy]
      exact ⟨fun ⟨a, b⟩ => ⟨a, by omega, b⟩, fun ⟨a, _, b⟩ => ⟨a, b⟩⟩

end Go.Proofs.YtlamhfbdeinkkaeGreat.St
namespace Go.Proofs.YtlamhfbdeinkkaeGreat.St
open Go.RowKit Bk
set_option linter.unusedSimpArgs false
set_option linter.unusedVariables false
set_option maxRecDepth 10000

/-- The place of a number; -1: it is not there. -/
def P.bat (id : Int) : Nat → List Bkg → Int
  | _, [] => -1
  | i, b :: t => if b.id = id then i else P.bat id (i + 1) t
set_option maxHeartbeats 1000000 in
theorem bookingAt_any (x : Sail) (a : SailA) (id : Int) (w : World) (hs : SailAt w x a) :
    Calls Tryz.prog 13 #[V.sail x a, .int .i64 id] w fun e w' => e = .returned (.int .i64 (P.bat id 0 x.bks)) ∧ Below w.heap.size w w' := by
  have hle := hs.bks.le
  have hmx := hs.bks.max
  unfold maxLen at hmx
  have hsx := SBox.new w x a
  have hsb := sail_below w x a
  go_enter Tryz.func13, Tryz.ntmps13
  go_wp2
  go_loopg [5] x.bks.length (fun g i wr => ∃ (k : Nat), k ≤ x.bks.length ∧ g = x.bks.length - k ∧ i = .int .i64 k ∧ Aside (P.bat id k (x.bks.drop k) = P.bat id 0 x.bks) ∧ SBox wr w.heap.size x a ∧ Below w.heap.size w wr)
  case atStart => exact ⟨0, Nat.zero_le _, rfl, rfl, rfl, hsx, hsb⟩
  case round =>
    obtain ⟨k, hk, rfl, rfl, HP, hbx, hB⟩ := hrel
    have HBX : Aside (SBox wr w.heap.size x a) := hbx
    have c11 := hbx.c11
    clear hbx
    by_cases hlt : k < x.bks.length
    · obtain ⟨b, off, y, fo, fc, hao, hbw, hd, hy, hfy⟩ := BksAt.get hs.bks hB k hlt
      have h : P.bat id k (x.bks.drop k) = P.bat id 0 x.bks := HP
      rw [hd, P.bat] at h
      have HP2 : Aside ((if y.id = id then (k : Int) else P.bat id (k + 1) (x.bks.drop (k + 1))) = P.bat id 0 x.bks) := h
      rw [hao] at c11
      have y0 := hy.c0
      have hkl : (k : Int) < x.bks.length := by omega
      clear h hd HP hy hfy hao
      cases hy : (y.id == id)
      · have HP3 : Aside (P.bat id (k + 1) (x.bks.drop (k + 1)) = P.bat id 0 x.bks) := by have := HP2.out; rw [if_neg (by simpa using hy)] at this; exact this
        clear HP2
        go_wp2
        go_roundg (x.bks.length - (k + 1))
        case measure => omega
        case rel => exact ⟨k + 1, by omega, rfl, by go_num, HP3, HBX.out, hB⟩
      · have HP3 : Aside ((k : Int) = P.bat id 0 x.bks) := by have := HP2.out; rw [if_pos (by simpa using hy)] at this; exact this
        clear HP2
        go_wp2
        go_ret
        exact ⟨ret_int HP3.out, hB⟩
    · obtain rfl : k = x.bks.length := by omega
      have h : P.bat id x.bks.length (x.bks.drop x.bks.length) = P.bat id 0 x.bks := HP
      rw [List.drop_of_length_le (Nat.le_refl _), P.bat] at h
      have HP3 : Aside (-1 = P.bat id 0 x.bks) := h
      clear h HP
      go_wp2
      go_ret
      exact ⟨ret_int HP3.out, hB⟩

end Go.Proofs.YtlamhfbdeinkkaeGreat.St
namespace Go.Proofs.YtlamhfbdeinkkaeGreat.Bk
open Go.ChangeShapes Go.WideShapes Go.ChangeAt Go.RowKit Go.Deep Go.Joins St
set_option linter.unusedSimpArgs false
set_option linter.unusedVariables false
set_option maxRecDepth 10000

theorem Tryz.cellsFares : Tryz.prog.cellsOf 29 = 5 := by kernel_rfl
theorem Tryz.cellsBand : Tryz.prog.cellsOf 143 = 2 := by kernel_rfl
theorem Tryz.cellsRows : Tryz.prog.cellsOf 26 = 1 := by kernel_rfl
theorem Tryz.cellsBands : Tryz.prog.cellsOf 27 = 1 := by kernel_rfl
theorem Tryz.cellsCats : Tryz.prog.cellsOf 22 = 1 := by kernel_rfl
theorem Tryz.cellsCabs : Tryz.prog.cellsOf 23 = 1 := by kernel_rfl
theorem Tryz.cellsBks : Tryz.prog.cellsOf 30 = 1 := by kernel_rfl
theorem Tryz.cellsSailing : Tryz.prog.cellsOf 32 = 13 := by kernel_rfl
theorem list13 {α : Type} {l : List α} (h : l.length = 13) : ∃ a0 a1 a2 a3 a4 a5 a6 a7 a8 a9 a10 a11 a12, l = [a0, a1, a2, a3, a4, a5, a6, a7, a8, a9, a10, a11, a12] := by
  match l, h with
  | [a0, a1, a2, a3, a4, a5, a6, a7, a8, a9, a10, a11, a12], _ => exact ⟨a0, a1, a2, a3, a4, a5, a6, a7, a8, a9, a10, a11, a12, rfl⟩
def cellsSail (x : Sail) (a : SailA) : List Value :=
  [.int .i64 x.s.legs, .int .i64 x.s.souls, .slice a.v.cao x.s.cs.length a.v.cc, .slice a.v.bao x.s.bs.length a.v.bc, .slice a.lo x.L.length a.lc, .int .i64 x.al, .int .i64 x.th, .slice a.bo x.B.length a.bc, .int .i64 x.dn, .int .i64 x.day, .int .i64 x.lvs, .slice a.ao x.bks.length a.cap, .bool x.cl]

section
variable {H : Type} {enc : TypeId × Value → H} {W : World}
theorem open_band {n : Nat} {cs : List Value} {x : DataW H × List MemPlace} (hl : cs.length = 2) (h : DataW.trod enc Tryz.prog W 0 (fun _ => true) true n 143 cs = some x) : ∃ z, Fo.RPair W z cs := by
  obtain ⟨y0, y1, m, _, _, h0, h1⟩ := trod_struct2 Tryz.underlying143 h
  obtain ⟨a, b, rfl⟩ := list2 hl
  simp only [Tryz.cellsInt] at h0 h1
  obtain ⟨p, e0, _⟩ := DataW.trod_int Tryz.underlying3 h0
  obtain ⟨q, e1, _⟩ := DataW.trod_int Tryz.underlying3 h1
  simp at e0 e1
  subst e0 e1
  exact ⟨(p, q), rfl⟩
theorem open_cells {n : Nat} {cs : List Value} {z : DataW H × List MemPlace} (hl : cs.length = 13) (h : DataW.trod enc Tryz.prog W 0 (fun _ => true) true n 32 cs = some z) : ∃ x a, cs = cellsSail x a ∧ SailAt W x a := by
  obtain ⟨n, hx⟩ := open_flds Tryz.underlying32 h
  obtain ⟨y0, h0⟩ := hx 0 25 0 4 rfl Tryz.cellsShip
  obtain ⟨y1, h1⟩ := hx 1 29 4 5 rfl Tryz.cellsFares
  obtain ⟨y2, h2⟩ := hx 2 3 9 1 rfl Tryz.cellsInt
  obtain ⟨y3, h3⟩ := hx 3 3 10 1 rfl Tryz.cellsInt
  obtain ⟨y4, h4⟩ := hx 4 30 11 1 rfl Tryz.cellsBks
  obtain ⟨y5, h5⟩ := hx 5 4 12 1 rfl Tryz.cellsBool
  obtain ⟨a0, a1, a2, a3, a4, a5, a6, a7, a8, a9, a10, a11, a12, rfl⟩ := list13 hl
  obtain ⟨n0, g⟩ := open_flds Tryz.underlying25 h0
  obtain ⟨_, g0⟩ := g 0 3 0 1 rfl Tryz.cellsInt
  obtain ⟨_, g1⟩ := g 1 3 1 1 rfl Tryz.cellsInt
  obtain ⟨_, g2⟩ := g 2 22 2 1 rfl Tryz.cellsCats
  obtain ⟨_, g3⟩ := g 3 23 3 1 rfl Tryz.cellsCabs
  obtain ⟨n1, f⟩ := open_flds Tryz.underlying29 h1
  obtain ⟨_, f0⟩ := f 0 26 0 1 rfl Tryz.cellsRows
  obtain ⟨_, f1⟩ := f 1 3 1 1 rfl Tryz.cellsInt
  obtain ⟨_, f2⟩ := f 2 3 2 1 rfl Tryz.cellsInt
  obtain ⟨_, f3⟩ := f 3 27 3 1 rfl Tryz.cellsBands
  obtain ⟨_, f4⟩ := f 4 3 4 1 rfl Tryz.cellsInt
  obtain ⟨legs, e0, _⟩ := DataW.trod_int Tryz.underlying3 g0
  obtain ⟨souls, e1, _⟩ := DataW.trod_int Tryz.underlying3 g1
  obtain ⟨cao, cc, cs, e2, hc⟩ := open_sl (size := 2) (R := Sh.RCat) Tryz.underlying22 Tryz.cellsCat (by omega) (fun n cs' y hl h => open_cat hl h) g2
  obtain ⟨bao, bc, bs, e3, hb⟩ := open_sl (size := 4) (R := Sh.RCab) Tryz.underlying23 Tryz.cellsCab (by omega) (fun n cs' y hl h => open_cab hl h) g3
  obtain ⟨lo, lc, L, e4, hL⟩ := open_sl (size := 1) (R := Fo.RRow) Tryz.underlying26 Tryz.cellsInts (by omega) (fun n cs' y hl h => by
    obtain ⟨ao, cap, l, e, hi⟩ := open_ints h
    exact ⟨l, ao, cap, e, hi⟩) f0
  obtain ⟨al, e5, _⟩ := DataW.trod_int Tryz.underlying3 f1
  obtain ⟨th, e6, _⟩ := DataW.trod_int Tryz.underlying3 f2
  obtain ⟨bo, bc', B, e7, hB⟩ := open_sl (size := 2) (R := Fo.RPair) Tryz.underlying27 Tryz.cellsBand (by omega) (fun n cs' y hl h => open_band hl h) f3
  obtain ⟨dn, e8, _⟩ := DataW.trod_int Tryz.underlying3 f4
  obtain ⟨day, e9, _⟩ := DataW.trod_int Tryz.underlying3 h2
  obtain ⟨lvs, e10, _⟩ := DataW.trod_int Tryz.underlying3 h3
  haveI : Inhabited Bkg := ⟨⟨0, 0, 0, 0, false, 0, 0, 0, 0, 0, []⟩⟩
  obtain ⟨ao, cap, l, e11, hl2⟩ := open_sl (R := RBk) (size := 11) Tryz.underlying30 Tryz.cellsBk (by decide) (fun n cs' y hlen hy => open_bk hlen hy) h4
  obtain ⟨cl, e12, _⟩ := DataW.trod_bool Tryz.underlying4 h5
  simp at e0 e1 e2 e3 e4 e5 e6 e7 e8 e9 e10 e11 e12
  subst e0 e1 e2 e3 e4 e5 e6 e7 e8 e9 e10 e11 e12
  exact ⟨⟨⟨legs, souls, cs, bs⟩, L, al, th, B, dn, day, lvs, l, cl⟩, ⟨⟨cao, bao, cc, bc⟩, lo, bo, lc, bc', ao, cap⟩, rfl, ⟨hc, hb⟩, ⟨hL, hB⟩, hl2⟩
theorem open_sailing {base : Nat} {v : Value} {d : DataW H} {ps : List MemPlace} (hv : Value.okWide Tryz.prog W .any base 32 v) (h : DataW.Trod enc Tryz.prog W 0 (fun _ => true) true 32 v d ps) :
    ∃ x a, v = V.sail x a ∧ SailAt W x a := by
  obtain ⟨cs, rfl, hsz⟩ := okWide_struct Tryz.underlying32 hv
  obtain ⟨fuel, hf⟩ := h
  obtain ⟨x, a, hz, he⟩ := open_cells (by simpa [Value.cells] using hsz.trans Tryz.cellsSailing) hf
  refine ⟨x, a, ?_, he⟩
  have e : cs.toList = cellsSail x a := by simpa [Value.cells] using hz
  rw [show cs = (cellsSail x a).toArray by rw [← e]]
  rfl
end

end Go.Proofs.YtlamhfbdeinkkaeGreat.Bk
