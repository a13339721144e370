/- Bookings in memory; walks of the leaves of package book. -/
import Derived.Test.YtgopdnlmiloipadSpB
import Derived.Test.YtgopdnlmiloipadShE
import Derived.Test.YtgopdnlmiloipadFoB
namespace Go.Proofs.Ytgopdnlmiloipad.Bk
open Go.RowKit
set_option linter.unusedSimpArgs false
set_option linter.unusedVariables false

/-- A ship; where its lists lie. -/
structure Vsl where
  legs : Int
  souls : Int
  cs : List Sh.Cat
  bs : List Sh.Cab
structure VslA where
  cao : Option Addr
  bao : Option Addr
  cc : Nat
  bc : Nat
abbrev V.vsl (s : Vsl) (a : VslA) : Value := .agg #[.int .i64 s.legs, .int .i64 s.souls, .slice a.cao s.cs.length a.cc, .slice a.bao s.bs.length a.bc]
abbrev VslAt (w : World) (s : Vsl) (a : VslA) : Prop := Sh.ShipAt w a.cao a.bao a.cc a.bc s.cs s.bs
def P.shp (s : Vsl) : Int := Sh.P.shipE s.legs s.souls s.cs s.bs

theorem shp_any (s : Vsl) (a : VslA) (w : World) (hs : VslAt w s a) :
    Calls Try.prog 37 #[V.vsl s a] w fun e w' => e = .returned (.int .i64 (P.shp s)) ∧ Below w.heap.size w w' := Sh.shipCheck_any _ _ _ _ _ _ _ _ w hs
theorem refShp_any (s : Vsl) (a : VslA) (w : World) (hs : VslAt w s a) :
    Calls Try.prog 7 #[V.vsl s a] w fun e w' => e = .returned (.int .i64 (P.shp s)) ∧ Below w.heap.size w w' := Sh.refCheck_any _ _ _ _ _ _ _ _ w hs

/-- A booking. -/
structure Bkg where
  id : Int
  kind : Int
  state : Int
  guests : Int
  level : Bool
  cabin : Int
  cat : Int
  frm : Int
  to : Int
  til : Int
  fol : List Fo.Ent
abbrev V.bk (b : Bkg) (fo : Option Addr) (fc : Nat) : Value :=
  .agg #[.int .i64 b.id, .int .i64 b.kind, .int .i64 b.state, .int .i64 b.guests, .bool b.level, .int .i64 b.cabin, .int .i64 b.cat, .int .i64 b.frm, .int .i64 b.to, .int .i64 b.til, .slice fo b.fol.length fc]
def cellsBk (b : Bkg) (fo : Option Addr) (fc : Nat) : List Value :=
  [.int .i64 b.id, .int .i64 b.kind, .int .i64 b.state, .int .i64 b.guests, .bool b.level, .int .i64 b.cabin, .int .i64 b.cat, .int .i64 b.frm, .int .i64 b.to, .int .i64 b.til, .slice fo b.fol.length fc]
def RBk (w : World) (b : Bkg) (cs : List Value) : Prop := ∃ fo fc, cs = cellsBk b fo fc ∧ Fo.EntsAt w fo fc b.fol
theorem RBk.mono : Mono RBk := fun w w' x cs hb ⟨fo, fc, h1, h2⟩ => ⟨fo, fc, h1, SlAt.below Fo.REnt.mono h2 hb⟩
abbrev BksAt (w : World) (ao : Option Addr) (cap : Nat) (l : List Bkg) : Prop := SlAt RBk 11 w ao cap l

/-- The eleven cells of a booking, from ⟨b, o⟩ on. -/
structure BkAt (w : World) (b o : Nat) (x : Bkg) (fo : Option Addr) (fc : Nat) : Prop where
  c0 : w.cell? ⟨b, o, none⟩ = some (.int .i64 x.id)
  c1 : w.cell? ⟨b, o + 1, none⟩ = some (.int .i64 x.kind)
  c2 : w.cell? ⟨b, o + 2, none⟩ = some (.int .i64 x.state)
  c3 : w.cell? ⟨b, o + 3, none⟩ = some (.int .i64 x.guests)
  c4 : w.cell? ⟨b, o + 4, none⟩ = some (.bool x.level)
  c5 : w.cell? ⟨b, o + 5, none⟩ = some (.int .i64 x.cabin)
  c6 : w.cell? ⟨b, o + 6, none⟩ = some (.int .i64 x.cat)
  c7 : w.cell? ⟨b, o + 7, none⟩ = some (.int .i64 x.frm)
  c8 : w.cell? ⟨b, o + 8, none⟩ = some (.int .i64 x.to)
  c9 : w.cell? ⟨b, o + 9, none⟩ = some (.int .i64 x.til)
  c10 : w.cell? ⟨b, o + 10, none⟩ = some (.slice fo x.fol.length fc)

theorem BkAt.below {w w' : World} {b o : Nat} {x : Bkg} {fo : Option Addr} {fc : Nat} (h : BkAt w b o x fo fc) (hb : Below w.heap.size w w') : BkAt w' b o x fo fc :=
  ⟨cellIn hb h.c0, cellIn hb h.c1, cellIn hb h.c2, cellIn hb h.c3, cellIn hb h.c4, cellIn hb h.c5, cellIn hb h.c6, cellIn hb h.c7, cellIn hb h.c8, cellIn hb h.c9, cellIn hb h.c10⟩

theorem BksAt.get {w w' : World} {ao : Option Addr} {cap : Nat} {l : List Bkg} (h : BksAt w ao cap l) (hb : Below w.heap.size w w') (k : Nat) (hk : k < l.length) :
    ∃ b off x fo fc, ao = some ⟨b, off, none⟩ ∧ b < w.heap.size ∧ l.drop k = x :: l.drop (k + 1) ∧ BkAt w' b (off + k * 11) x fo fc ∧ Fo.EntsAt w' fo fc x.fol := by
  obtain ⟨b, off, x, cs, h1, h2, h3, ⟨fo, fc, rfl, h4⟩, h5, h6⟩ := SlAt.get RBk.mono h hb k hk
  exact ⟨b, off, x, fo, fc, h1, h2, h3, ⟨h6 0 _ rfl, h6 1 _ rfl, h6 2 _ rfl, h6 3 _ rfl, h6 4 _ rfl, h6 5 _ rfl, h6 6 _ rfl, h6 7 _ rfl, h6 8 _ rfl, h6 9 _ rfl, h6 10 _ rfl⟩, h4⟩

set_option maxHeartbeats 400000 in
theorem within_any (n a b : Int) (w : World) :
    Calls Try.prog 39 #[.int .i64 n, .int .i64 a, .int .i64 b] w fun e w' => e = .returned (.bool (P.btw n a b)) ∧ w = w' := by
  by_cases h1 : a ≤ n <;> by_cases h2 : n ≤ b
  all_goals
    go_enter Try.func39, Try.ntmps39
    go_wp2
    go_ret
    simp [P.btw, h1, h2]

def P.cabB (s : Vsl) (n : Int) : Bool := P.btw n 0 ((s.bs.length : Int) - 1)

theorem shp_size {s : Vsl} (h : P.shp s = 0) : 1 ≤ s.legs ∧ s.legs ≤ 7 ∧ 1 ≤ s.souls ∧ s.souls ≤ 60 ∧ 1 ≤ s.cs.length ∧ s.cs.length ≤ 5 ∧ 1 ≤ s.bs.length ∧ s.bs.length ≤ 12 := by
  unfold P.shp Sh.P.shipE at h
  split at h
  · rename_i h1
    exact Sh.size_ok h1
  · rename_i h1
    exact absurd h h1

theorem cabs_ok {n : Int} {l : List Sh.Cab} {ns : List ByteArray} (h : Sh.P.cabs n ns l = 0) : ∀ c ∈ l, 0 ≤ c.2.1 ∧ c.2.1 ≤ n - 1 ∧ 1 ≤ c.2.2.1 ∧ c.2.2.1 ≤ 4 := by
  induction l generalizing ns with
  | nil => simp
  | cons y l ih =>
    rw [Sh.P.cabs] at h
    split at h
    · split at h
      · rename_i hh
        intro c hc
        rcases List.mem_cons.1 hc with rfl | hc
        · simp [P.btw] at hh; omega
        · exact ih h c hc
      · omega
    · contradiction

theorem shp_cabs {s : Vsl} (h : P.shp s = 0) : ∀ c ∈ s.bs, 0 ≤ c.2.1 ∧ c.2.1 < s.cs.length ∧ 1 ≤ c.2.2.1 ∧ c.2.2.1 ≤ 4 := by
  have h' := h
  unfold P.shp Sh.P.shipE at h
  split at h
  · split at h
    · split at h
      · omega
      · intro c hc
        have := cabs_ok h c hc
        omega
    · contradiction
  · contradiction

set_option maxHeartbeats 400000 in
theorem isCabin_any (s : Vsl) (a : VslA) (n : Int) (w : World) (hb : s.bs.length ≤ 1000) :
    Calls Try.prog 19 #[V.vsl s a, .int .i64 n] w fun e w' => e = .returned (.bool (P.cabB s n)) ∧ Below w.heap.size w w' := by
  go_enter Try.func19, Try.ntmps19
  go_wp2_with (go_at_call 39; refine (within_any _ _ _ _).mono ?_; rintro e w1 ⟨rfl, rfl⟩)
  go_ret
  exact ⟨rfl, by go_grown⟩

def P.live (b : Bkg) : Bool := decide (b.state ≠ 3)

set_option maxHeartbeats 400000 in
theorem isLive_any (b : Bkg) (fo : Option Addr) (fc : Nat) (w : World) :
    Calls Try.prog 22 #[V.bk b fo fc] w fun e w' => e = .returned (.bool (P.live b)) ∧ Below w.heap.size w w' := by
  go_enter Try.func22, Try.ntmps22
  go_wp2
  go_ret
  exact ⟨ret_bool (by by_cases h : b.state = 3 <;> simp [P.live, h]), by go_grown⟩

abbrev V.cab (c : Sh.Cab) : Value := .agg #[.string c.1, .int .i64 c.2.1, .int .i64 c.2.2.1, .bool c.2.2.2]
def P.suits (c : Sh.Cab) (b : Bkg) : Bool := decide (b.guests ≤ c.2.2.1) && (c.2.2.2 || !b.level)

set_option maxHeartbeats 400000 in
theorem suits_any (c : Sh.Cab) (b : Bkg) (fo : Option Addr) (fc : Nat) (w : World) :
    Calls Try.prog 74 #[V.cab c, V.bk b fo fc] w fun e w' => e = .returned (.bool (P.suits c b)) ∧ Below w.heap.size w w' := by
  obtain ⟨nm, ca, be, lv⟩ := c
  by_cases h1 : b.guests ≤ be <;> cases lv
  all_goals
    go_enter Try.func74, Try.ntmps74
    go_wp2
    go_ret
    exact ⟨ret_bool (by first | (simp [P.suits, h1]; done) | (simp [P.suits]; intros; omega)), by go_grown⟩

set_option maxHeartbeats 400000 in
theorem doesFit_any (c : Sh.Cab) (b : Bkg) (fo : Option Addr) (fc : Nat) (w : World) :
    Calls Try.prog 30 #[V.cab c, V.bk b fo fc] w fun e w' => e = .returned (.bool (P.suits c b)) ∧ Below w.heap.size w w' := by
  obtain ⟨nm, ca, be, lv⟩ := c
  obtain ⟨id, kind, state, guests, level, cabin, cat, frm, to, til, fol⟩ := b
  by_cases h1 : guests ≤ be <;> cases level
  all_goals
    go_enter Try.func30, Try.ntmps30
    go_wp2
    go_ret
    exact ⟨ret_bool (by first | (simp [P.suits, h1]; done) | (simp [P.suits]; intros; omega)), by go_grown⟩

end Go.Proofs.Ytgopdnlmiloipad.Bk
