import Derived.Test.YtlamhfbdeinkkaeGreatSpBt
import Derived.Test.YtlamhfbdeinkkaeGreatShEt
import Derived.Test.YtlamhfbdeinkkaeGreatFoBt
set_option maxRecDepth 10000
/- Bookings in memory; walks of the leaves of package book. -/
namespace Go.Proofs.YtlamhfbdeinkkaeGreat.Bk
open Go.RowKit
set_option linter.unusedSimpArgs false
set_option linter.unusedVariables false

/-- A ship; where its lists lie. -/
structure Vsl where
  legs : Int
  souls : Int
  cs : List Sh.Cat
  bs : List Sh.Cab
structure VslA where
  cao : Option Addr
  bao : Option Addr
  cc : Nat
  bc : Nat
abbrev V.vsl (s : Vsl) (a : VslA) : Value := .agg #[.int .i64 s.legs, .int .i64 s.souls, .slice a.cao s.cs.length a.cc, .slice a.bao s.bs.length a.bc]
abbrev VslAt (w : World) (s : Vsl) (a : VslA) : Prop := Sh.ShipAt w a.cao a.bao a.cc a.bc s.cs s.bs
def P.shp (s : Vsl) : Int := Sh.P.shipE s.legs s.souls s.cs s.bs

theorem shp_any (s : Vsl) (a : VslA) (w : World) (hs : VslAt w s a) :
    Calls Tryz.prog 104 #[V.vsl s a] w fun e w' => e = .returned (.int .i64 (P.shp s)) ∧ Below w.heap.size w w' := Sh.shipCheck_any _ _ _ _ _ _ _ _ w hs
theorem refShp_any (s : Vsl) (a : VslA) (w : World) (hs : VslAt w s a) :
    Calls Tryz.prog 72 #[V.vsl s a] w fun e w' => e = .returned (.int .i64 (P.shp s)) ∧ Below w.heap.size w w' := Sh.refCheck_any _ _ _ _ _ _ _ _ w hs

/-- A booking. -/
structure Bkg where
  id : Int
  kind : Int
  state : Int
  guests : Int
  level : Bool
  cabin : Int
  cat : Int
  frm : Int
  to : Int
  til : Int
  fol : List Fo.Ent
abbrev V.bk (b : Bkg) (fo : Option Addr) (fc : Nat) : Value :=
  .agg #[.int .i64 b.id, .int .i64 b.kind, .int .i64 b.state, .int .i64 b.guests, .bool b.level, .int .i64 b.cabin, .int .i64 b.cat, .int .i64 b.frm, .int .i64 b.to, .int .i64 b.til, .slice fo b.fol.length fc]
def cellsBk (b : Bkg) (fo : Option Addr) (fc : Nat) : List Value :=
  [.int .i64 b.id, .int .i64 b.kind, .int .i64 b.state, .int .i64 b.guests, .bool b.level, .int .i64 b.cabin, .int .i64 b.cat, .int .i64 b.frm, .int .i64 b.to, .int .i64 b.til, .slice fo b.fol.length fc]
def RBk (w : World) (b : Bkg) (cs : List Value) : Prop := ∃ fo fc, cs = cellsBk b fo fc ∧ Fo.EntsAt w fo fc b.fol
theorem RBk.mono : Mono RBk := fun w w' x cs hb ⟨fo, fc, h1, h2⟩ => ⟨fo, fc, h1, SlAt.below Fo.REnt.mono h2 hb⟩
abbrev BksAt (w : World) (ao : Option Addr) (cap : Nat) (l : List Bkg) : Prop := SlAt RBk 11 w ao cap l

/-- The eleven cells of a booking, from ⟨b, o⟩ on. -/
structure BkAt (w : World) (b o : Nat) (x : Bkg) (fo : Option Addr) (fc : Nat) : Prop where
  c0 : w.cell? ⟨b, o, none⟩ = some (.int .i64 x.id)
  c1 : w.cell? ⟨b, o + 1, none⟩ = some (.int .i64 x.kind)
  c2 : w.cell? ⟨b, o + 2, none⟩ = some (.int .i64 x.state)
  c3 : w.cell? ⟨b, o + 3, none⟩ = some (.int .i64 x.guests)
  c4 : w.cell? ⟨b, o + 4, none⟩ = some (.bool x.level)
  c5 : w.cell? ⟨b, o + 5, none⟩ = some (.int .i64 x.cabin)
  c6 : w.cell? ⟨b, o + 6, none⟩ = some (.int .i64 x.cat)
  c7 : w.cell? ⟨b, o + 7, none⟩ = some (.int .i64 x.frm)
  c8 : w.cell? ⟨b, o + 8, none⟩ = some (.int .i64 x.to)
  c9 : w.cell? ⟨b, o + 9, none⟩ = some (.int .i64 x.til)
  c10 : w.cell? ⟨b, o + 10, none⟩ = some (.slice fo x.fol.length fc)

theorem BkAt.below {w w' : World} {b o : Nat} {x : Bkg} {fo : Option Addr} {fc : Nat} (h : BkAt w b o x fo fc) (hb : Below w.heap.size w w') : BkAt w' b o x fo fc :=
  ⟨cellIn hb h.c0, cellIn hb h.c1, cellIn hb h.c2, cellIn hb h.c3, cellIn hb h.c4, cellIn hb h.c5, cellIn hb h.c6, cellIn hb h.c7, cellIn hb h.c8, cellIn hb h.c9, cellIn hb h.c10⟩

theorem BksAt.get {w w' : World} {ao : Option Addr} {cap : Nat} {l : List Bkg} (h : BksAt w ao cap l) (hb : Below w.heap.size w w') (k : Nat) (hk : k < l.length) :
    ∃ b off x fo fc, ao = some ⟨b, off, none⟩ ∧ b < w.heap.size ∧ l.drop k = x :: l.drop (k + 1) ∧ BkAt w' b (off + k * 11) x fo fc ∧ Fo.EntsAt w' fo fc x.fol := by
  obtain ⟨b, off, x, cs, h1, h2, h3, ⟨fo, fc, rfl, h4⟩, h5, h6⟩ := SlAt.get RBk.mono h hb k hk
  exact ⟨b, off, x, fo, fc, h1, h2, h3, ⟨h6 0 _ rfl, h6 1 _ rfl, h6 2 _ rfl, h6 3 _ rfl, h6 4 _ rfl, h6 5 _ rfl, h6 6 _ rfl, h6 7 _ rfl, h6 8 _ rfl, h6 9 _ rfl, h6 10 _ rfl⟩, h4⟩

set_option maxHeartbeats 400000 in
theorem within_any (n a b : Int) (w : World) :
    Calls Tryz.prog 184 #[.int .i64 n, .int .i64 a, .int .i64 b] w fun e w' => e = .returned (.bool (P.btw n a b)) ∧ w = w' := by
  by_cases h1 : a ≤ n <;> by_cases h2 : n ≤ b
  all_goals
    go_enter Tryz.func184, Tryz.ntmps184
    go_wp2
    go_ret
    simp [P.btw, h1, h2]

def P.cabB (s : Vsl) (n : Int) : Bool := P.btw n 0 ((s.bs.length : Int) - 1)

theorem shp_size {s : Vsl} (h : P.shp s = 0) : 1 ≤ s.legs ∧ s.legs ≤ 7 ∧ 1 ≤ s.souls ∧ s.souls ≤ 60 ∧ 1 ≤ s.cs.length ∧ s.cs.length ≤ 5 ∧ 1 ≤ s.bs.length ∧ s.bs.length ≤ 12 := by
  unfold P.shp Sh.P.shipE at h
  split at h
  · rename_i h1
    exact Sh.size_ok h1
  · rename_i h1
    exact absurd h h1

theorem cabs_ok {n : Int} {l : List Sh.Cab} {ns : List ByteArray} (h : Sh.P.cabs n ns l = 0) : ∀ c ∈ l, 0 ≤ c.2.1 ∧ c.2.1 ≤ n - 1 ∧ 1 ≤ c.2.2.1 ∧ c.2.2.1 ≤ 4 := by
  induction l generalizing ns with
  | nil => simp
  | cons y l ih =>
    rw [Sh.P.cabs] at h
    split at h
    · split at h
      · rename_i hh
        intro c hc
        rcases List.mem_cons.1 hc with rfl | hc
        · simp [P.btw] at hh; omega
        · exact ih h c hc
      · omega
    · contradiction

theorem shp_cabs {s : Vsl} (h : P.shp s = 0) : ∀ c ∈ s.bs, 0 ≤ c.2.1 ∧ c.2.1 < s.cs.length ∧ 1 ≤ c.2.2.1 ∧ c.2.2.1 ≤ 4 := by
  have h' := h
  unfold P.shp Sh.P.shipE at h
  split at h
  · split at h
    · split at h
      · omega
      · intro c hc
        have := cabs_ok h c hc
        omega
    · contradiction
  · contradiction

set_option maxHeartbeats 400000 in
theorem isCabin_any (s : Vsl) (a : VslA) (n : Int) (w : World) (hb : s.bs.length ≤ 1000) :
    Calls Tryz.prog 150 #[V.vsl s a, .int .i64 n] w fun e w' => e = .returned (.bool (P.cabB s n)) ∧ Below w.heap.size w w' := by
  go_enter Tryz.func150, Tryz.ntmps150
  go_wp2_with (go_at_call 184; refine (within_any _ _ _ _).mono ?_; rintro e w1 ⟨rfl, rfl⟩)
  go_ret
  exact ⟨rfl, by go_grown⟩

def P.live (b : Bkg) : Bool := decide (b.state ≠ 3)

set_option maxHeartbeats 400000 in
theorem isLive_any (b : Bkg) (fo : Option Addr) (fc : Nat) (w : World) :
    Calls Tryz.prog 153 #[V.bk b fo fc] w fun e w' => e = .returned (.bool (P.live b)) ∧ Below w.heap.size w w' := by
  go_enter Tryz.func153, Tryz.ntmps153
  go_wp2
  go_ret
  exact ⟨ret_bool (by by_cases h : b.state = 3 <;> simp [P.live, h]), by go_grown⟩

abbrev V.cab (c : Sh.Cab) : Value := .agg #[.string c.1, .int .i64 c.2.1, .int .i64 c.2.2.1, .bool c.2.2.2]
def P.suits (c : Sh.Cab) (b : Bkg) : Bool := decide (b.guests ≤ c.2.2.1) && (c.2.2.2 || !b.level)

set_option maxHeartbeats 400000 in
theorem suits_any (c : Sh.Cab) (b : Bkg) (fo : Option Addr) (fc : Nat) (w : World) :
    Calls Tryz.prog 243 #[V.cab c, V.bk b fo fc] w fun e w' => e = .returned (.bool (P.suits c b)) ∧ Below w.heap.size w w' := by
  obtain ⟨nm, ca, be, lv⟩ := c
  by_cases h1 : b.guests ≤ be <;> cases lv
  all_goals
    go_enter Tryz.func243, Tryz.ntmps243
    go_wp2
    go_ret
    exact ⟨ret_bool (by first | (simp [P.suits, h1]; done) | (simp [P.suits]; intros; omega)), by go_grown⟩

set_option maxHeartbeats 400000 in
theorem doesFit_any (c : Sh.Cab) (b : Bkg) (fo : Option Addr) (fc : Nat) (w : World) :
    Calls Tryz.prog 128 #[V.cab c, V.bk b fo fc] w fun e w' => e = .returned (.bool (P.suits c b)) ∧ Below w.heap.size w w' := by
  obtain ⟨nm, ca, be, lv⟩ := c
  obtain ⟨id, kind, state, guests, level, cabin, cat, frm, to, til, fol⟩ := b
  by_cases h1 : guests ≤ be <;> cases level
  all_goals
    go_enter Tryz.func128, Tryz.ntmps128
    go_wp2
    go_ret
    exact ⟨ret_bool (by first | (simp [P.suits, h1]; done) | (simp [P.suits]; intros; omega)), by go_grown⟩

end Go.Proofs.YtlamhfbdeinkkaeGreat.Bk

/- Walks of checkNamed, checkEligible, checkPromise, checkKind, checkOn. -/
namespace Go.Proofs.YtlamhfbdeinkkaeGreat.Bk
open Go.RowKit
set_option linter.unusedSimpArgs false
set_option linter.unusedVariables false

def P.cabAt (s : Vsl) (n : Int) : Sh.Cab := s.bs.getD n.toNat (ByteArray.empty, 0, 0, false)
def P.namedE (s : Vsl) (b : Bkg) : Int := if P.cabB s b.cabin = true then (if b.cat = 0 then (if P.suits (P.cabAt s b.cabin) b = true then 0 else 4) else 1) else 3
def P.elig (s : Vsl) (b : Bkg) (n : Int) : Bool := Sh.P.serves s.cs (P.cabAt s n).2.1 b.cat && P.suits (P.cabAt s n) b
def P.promE (s : Vsl) (b : Bkg) : Int :=
  if P.btw b.cat 0 ((s.cs.length : Int) - 1) = true then (if b.frm = 0 ∧ b.to = s.legs then (if b.cabin = -1 then 0 else if P.cabB s b.cabin = true then (if P.elig s b b.cabin = true then 0 else 4) else 3) else 4) else 3
def P.kindE (s : Vsl) (b : Bkg) : Int := if b.kind = 1 then P.namedE s b else P.promE s b
/-- G1 of a booking, on a ship that is right. -/
def P.bkE (s : Vsl) (b : Bkg) : Int :=
  if (P.btw b.kind 1 2 && P.btw b.state 1 3) = true then
    (if (P.btw b.id 1 999999 && P.btw b.guests 1 4) = true then
      (if P.chk b.frm b.to s.legs = 0 then
        (if P.kindE s b = 0 then (if P.btw b.til 0 9999 = true then (if b.til ≠ 0 ∧ b.state ≠ 1 then 1 else Fo.P.folE b.fol) else 3) else P.kindE s b)
      else P.chk b.frm b.to s.legs)
    else 3)
  else 7

theorem cab_get {w w' : World} {s : Vsl} {a : VslA} (h : VslAt w s a) (hB : Below w.heap.size w w') {n : Int} (hn : P.cabB s n = true) :
    ∃ (k : Nat) (b off : Nat) (c : Sh.Cab), n = k ∧ k < s.bs.length ∧ P.cabAt s n = c ∧ c ∈ s.bs ∧ a.bao = some ⟨b, off, none⟩ ∧ w'.cell? ⟨b, off + k * 4, none⟩ = some (.string c.1) ∧ w'.cell? ⟨b, off + k * 4 + 1, none⟩ = some (.int .i64 c.2.1) ∧ w'.cell? ⟨b, off + k * 4 + 2, none⟩ = some (.int .i64 c.2.2.1) ∧ w'.cell? ⟨b, off + k * 4 + 3, none⟩ = some (.bool c.2.2.2) := by
  simp [P.cabB, P.btw] at hn
  obtain ⟨k, rfl⟩ : ∃ k : Nat, n = k := ⟨n.toNat, by omega⟩
  have hk : k < s.bs.length := by omega
  obtain ⟨b, off, nm, c, be, lv, e1, _, hd, c0, c1, c2, c3, _⟩ := Sh.CabsAt.get h.cabs hB k hk
  have e : s.bs[k] = (nm, c, be, lv) := Fo.getA hk hd
  refine ⟨k, b, off, (nm, c, be, lv), rfl, hk, ?_, Fo.memA hk hd, e1, c0, c1, c2, c3⟩
  rw [← e]
  simp [P.cabAt, List.getD, hk]

/-- A ship, and a booking, in blocks of their own. -/
structure VBox (w : World) (g : Nat) (s : Vsl) (a : VslA) : Prop where
  c0 : w.cell? ⟨g, 0, none⟩ = some (.int .i64 s.legs)
  c1 : w.cell? ⟨g, 1, none⟩ = some (.int .i64 s.souls)
  c2 : w.cell? ⟨g, 2, none⟩ = some (.slice a.cao s.cs.length a.cc)
  c3 : w.cell? ⟨g, 3, none⟩ = some (.slice a.bao s.bs.length a.bc)
structure BBox (w : World) (g : Nat) (x : Bkg) (fo : Option Addr) (fc : Nat) : Prop where
  c0 : w.cell? ⟨g, 0, none⟩ = some (.int .i64 x.id)
  c1 : w.cell? ⟨g, 1, none⟩ = some (.int .i64 x.kind)
  c2 : w.cell? ⟨g, 2, none⟩ = some (.int .i64 x.state)
  c3 : w.cell? ⟨g, 3, none⟩ = some (.int .i64 x.guests)
  c4 : w.cell? ⟨g, 4, none⟩ = some (.bool x.level)
  c5 : w.cell? ⟨g, 5, none⟩ = some (.int .i64 x.cabin)
  c6 : w.cell? ⟨g, 6, none⟩ = some (.int .i64 x.cat)
  c7 : w.cell? ⟨g, 7, none⟩ = some (.int .i64 x.frm)
  c8 : w.cell? ⟨g, 8, none⟩ = some (.int .i64 x.to)
  c9 : w.cell? ⟨g, 9, none⟩ = some (.int .i64 x.til)
  c10 : w.cell? ⟨g, 10, none⟩ = some (.slice fo x.fol.length fc)
theorem VBox.below {w w' : World} {g : Nat} {s : Vsl} {a : VslA} (h : VBox w g s a) (hb : Below w.heap.size w w') : VBox w' g s a := ⟨cellIn hb h.c0, cellIn hb h.c1, cellIn hb h.c2, cellIn hb h.c3⟩
theorem BBox.below {w w' : World} {g : Nat} {x : Bkg} {fo : Option Addr} {fc : Nat} (h : BBox w g x fo fc) (hb : Below w.heap.size w w') : BBox w' g x fo fc :=
  ⟨cellIn hb h.c0, cellIn hb h.c1, cellIn hb h.c2, cellIn hb h.c3, cellIn hb h.c4, cellIn hb h.c5, cellIn hb h.c6, cellIn hb h.c7, cellIn hb h.c8, cellIn hb h.c9, cellIn hb h.c10⟩
theorem VBox.new (w : World) (s : Vsl) (a : VslA) : VBox (w.alloc (.cells #[.int .i64 s.legs, .int .i64 s.souls, .slice a.cao s.cs.length a.cc, .slice a.bao s.bs.length a.bc] 25)) w.heap.size s a := ⟨by simp, by simp, by simp, by simp⟩
theorem BBox.new (w : World) (b : Bkg) (fo : Option Addr) (fc : Nat) :
    BBox (w.alloc (.cells #[.int .i64 b.id, .int .i64 b.kind, .int .i64 b.state, .int .i64 b.guests, .bool b.level, .int .i64 b.cabin, .int .i64 b.cat, .int .i64 b.frm, .int .i64 b.to, .int .i64 b.til, .slice fo b.fol.length fc] 37)) w.heap.size b fo fc :=
  ⟨by simp, by simp, by simp, by simp, by simp, by simp, by simp, by simp, by simp, by simp, by simp⟩

/-- The world behind the boxes of a ship and a booking. -/
abbrev W.two (w : World) (s : Vsl) (a : VslA) (b : Bkg) (fo : Option Addr) (fc : Nat) : World :=
  (w.alloc (.cells #[.int .i64 s.legs, .int .i64 s.souls, .slice a.cao s.cs.length a.cc, .slice a.bao s.bs.length a.bc] 25)).alloc (.cells #[.int .i64 b.id, .int .i64 b.kind, .int .i64 b.state, .int .i64 b.guests, .bool b.level, .int .i64 b.cabin, .int .i64 b.cat, .int .i64 b.frm, .int .i64 b.to, .int .i64 b.til, .slice fo b.fol.length fc] 37)
theorem two_below (w : World) (s : Vsl) (a : VslA) (b : Bkg) (fo : Option Addr) (fc : Nat) : Below w.heap.size w (W.two w s a b fo fc) := by go_grown
theorem two_v (w : World) (s : Vsl) (a : VslA) (b : Bkg) (fo : Option Addr) (fc : Nat) : VBox (W.two w s a b fo fc) w.heap.size s a := (VBox.new w s a).below (by go_grown)
theorem two_b (w : World) (s : Vsl) (a : VslA) (b : Bkg) (fo : Option Addr) (fc : Nat) : BBox (W.two w s a b fo fc) (w.heap.size + 1) b fo fc := by
  have := BBox.new (w.alloc (.cells #[.int .i64 s.legs, .int .i64 s.souls, .slice a.cao s.cs.length a.cc, .slice a.bao s.bs.length a.bc] 25)) b fo fc
  rwa [World.size_alloc] at this

set_option maxHeartbeats 1000000 in
theorem checkNamed_any (s : Vsl) (a : VslA) (b : Bkg) (fo : Option Addr) (fc : Nat) (w : World) (hs : VslAt w s a) (h0 : P.shp s = 0) :
    Calls Tryz.prog 233 #[V.vsl s a, V.bk b fo fc] w fun e w' => e = .returned (.int .i64 (P.namedE s b)) ∧ Below w.heap.size w w' := by
  obtain ⟨_, _, _, _, _, _, _, hbs⟩ := shp_size h0
  have hbt := two_below w s a b fo fc
  have hbx := two_b w s a b fo fc
  have hvx := two_v w s a b fo fc
  cases hc : P.cabB s b.cabin
  · have HE : Aside (P.namedE s b = 3) := by show _ = _; rw [P.namedE, if_neg (by simp [hc])]
    go_enter Tryz.func233, Tryz.ntmps233
    go_wp2_with (go_at_call 150; refine (isCabin_any s a _ _ (by omega)).mono ?_; rintro e w1 ⟨rfl, hb1⟩; rw [hc])
    go_ret
    exact ⟨ret_int HE.out.symm, bvia hbt hb1⟩
  · cases h6 : (b.cat == 0)
    · have HE : Aside (P.namedE s b = 1) := by show _ = _; rw [P.namedE, if_pos hc, if_neg (by simpa using h6)]
      go_enter Tryz.func233, Tryz.ntmps233
      go_wp2_with (go_at_call 150; refine (isCabin_any s a _ _ (by omega)).mono ?_; rintro e w1 ⟨rfl, hb1⟩; rw [hc]; have hx := (hbx.below hb1).c6)
      go_ret
      exact ⟨ret_int HE.out.symm, bvia hbt hb1⟩
    · have HE : Aside (P.namedE s b = if P.suits (P.cabAt s b.cabin) b = true then 0 else 4) := by show _ = _; rw [P.namedE, if_pos hc, if_pos (by simpa using h6)]
      go_enter Tryz.func233, Tryz.ntmps233
      go_wp2_with fail
      refine (isCabin_any s a _ _ (by omega)).mono ?_
      rintro e w1 ⟨rfl, hb1⟩
      rw [hc]
      have hB1 : Below w.heap.size w w1 := bvia hbt hb1
      obtain ⟨k, bb, off, c, ek, hk, ec, _, ebao, q0, q1, q2, q3⟩ := cab_get hs hB1 hc
      rw [ec] at HE
      obtain ⟨x0, x1, x2, x3, x4, x5, x6, x7, x8, x9, x10⟩ := hbx.below hb1
      obtain ⟨v0, v1, v2, v3⟩ := hvx.below hb1
      have hk1 : (k : Int) < s.bs.length := by omega
      have hk2 : (0 : Int) ≤ k := by omega
      rw [ebao] at v3
      have x5' := x5
      rw [ek] at x5
      have r0 := cell_regrown x0
      have r1 := cell_regrown x1
      have r2 := cell_regrown x2
      have r3 := cell_regrown x3
      have r4 := cell_regrown x4
      have r5 := cell_regrown x5
      have r6 := cell_regrown x6
      have r7 := cell_regrown x7
      have r8 := cell_regrown x8
      have r9 := cell_regrown x9
      have r10 := cell_regrown x10
      have t0 := cell_regrown v0
      have t1 := cell_regrown v1
      have t2 := cell_regrown v2
      have t3 := cell_regrown v3
      have u0 := cell_regrown q0
      have u1 := cell_regrown q1
      have u2 := cell_regrown q2
      have u3 := cell_regrown q3
      have EK : Aside (b.cabin = k) := ek
      clear hc ek x5'
      clear hbx hvx hbt
      go_wp2
      refine wp_region_quiet_below (by kernel_rfl) (by kernel_rfl) ?_
      repeat (quiet_step ((go_at_call 243; exact Calls.regrown_of ((by rw [← EK.out]; exact suits_any c b fo fc _)))))
      refine wpQuiet_nil ?_
      intro w2 hw2
      obtain ⟨⟨dq, osq⟩, hw2⟩ := hw2
      have hb2 := below_regrown w1 dq osq
      rw [← hw2] at hb2
      clear hw2 r0 r1 r2 r3 r4 r5 r6 r7 r8 r9 r10 t0 t1 t2 t3 u0 u1 u2 u3
      cases hsu : P.suits c b
      · go_wp2
        go_ret
        exact ⟨ret_int (by rw [HE.out, hsu]; rfl), bvia hB1 hb2⟩
      · go_wp2
        go_ret
        exact ⟨ret_int (by rw [HE.out, hsu]; rfl), bvia hB1 hb2⟩

end Go.Proofs.YtlamhfbdeinkkaeGreat.Bk

/- Walks of checkEligible, checkPromise, checkKind. -/
namespace Go.Proofs.YtlamhfbdeinkkaeGreat.Bk
open Go.RowKit
set_option linter.unusedSimpArgs false
set_option linter.unusedVariables false

theorem cab_get' {w w' : World} {s : Vsl} {a : VslA} (h : VslAt w s a) (hB : Below w.heap.size w w') {n : Int} (hn : P.cabB s n = true) :
    ∃ (b off : Nat) (c : Sh.Cab), 0 ≤ n ∧ n < s.bs.length ∧ P.cabAt s n = c ∧ c ∈ s.bs ∧ a.bao = some ⟨b, off, none⟩ ∧ w'.cell? ⟨b, off + n.toNat * 4, none⟩ = some (.string c.1) ∧ w'.cell? ⟨b, off + n.toNat * 4 + 1, none⟩ = some (.int .i64 c.2.1) ∧ w'.cell? ⟨b, off + n.toNat * 4 + 2, none⟩ = some (.int .i64 c.2.2.1) ∧ w'.cell? ⟨b, off + n.toNat * 4 + 3, none⟩ = some (.bool c.2.2.2) := by
  obtain ⟨k, b, off, c, rfl, hk, h1, h2, h3, h4, h5, h6, h7⟩ := cab_get h hB hn
  exact ⟨b, off, c, by omega, by omega, h1, h2, h3, h4, h5, h6, h7⟩

theorem serves_in {s : Vsl} (h : P.shp s = 0) {x y : Int} (hx : 0 ≤ x ∧ x < s.cs.length) (hy : 0 ≤ y ∧ y < s.cs.length) :
    Sh.P.servesE s.legs s.souls s.cs s.bs x y = 0 ∧ Sh.P.servesB s.legs s.souls s.cs s.bs x y = Sh.P.serves s.cs x y := by
  have e : Sh.P.servesE s.legs s.souls s.cs s.bs x y = 0 := by
    have h' : Sh.P.shipE s.legs s.souls s.cs s.bs = 0 := h
    rw [Sh.P.servesE, if_pos h', if_pos (by simp [P.btw]; omega)]
  exact ⟨e, by simp [Sh.P.servesB, e]⟩

def P.eligE (s : Vsl) (b : Bkg) : Int := if P.elig s b b.cabin = true then 0 else 4

set_option maxHeartbeats 1000000 in
theorem checkEligible_any (s : Vsl) (a : VslA) (b : Bkg) (fo : Option Addr) (fc : Nat) (w : World) (hs : VslAt w s a) (h0 : P.shp s = 0) (hc : P.cabB s b.cabin = true) (hy : 0 ≤ b.cat ∧ b.cat < s.cs.length) :
    Calls Tryz.prog 244 #[V.vsl s a, V.bk b fo fc] w fun e w' => e = .returned (.int .i64 (P.eligE s b)) ∧ Below w.heap.size w w' := by
  obtain ⟨_, _, _, _, _, _, _, hbs⟩ := shp_size h0
  obtain ⟨bb, off, c, hc0, hc1, ec, hm, ebao, q0, q1, q2, q3⟩ := cab_get' hs (Below.refl _ _) hc
  obtain ⟨g0, g1, _, _⟩ := shp_cabs h0 c hm
  have hbl : bb < w.heap.size := World.block_lt_of_cell? w _ q0
  have hsv := serves_in h0 ⟨g0, g1⟩ hy
  obtain ⟨hsE, hsB⟩ := hsv
  have HE : Aside (P.eligE s b = if (Sh.P.serves s.cs c.2.1 b.cat && P.suits c b) = true then 0 else 4) := by show _ = _; rw [P.eligE, P.elig, ec]
  clear hc
  have hv : VslAt w s a := hs
  obtain ⟨legs, souls, cs, bs⟩ := s
  obtain ⟨cao, bao, cc, bc⟩ := a
  simp only at *
  subst ebao
  replace hv : Sh.ShipAt w cao (some ⟨bb, off, none⟩) cc bc cs bs := hv
  cases hsv : Sh.P.serves cs c.2.1 b.cat
  · go_enter Tryz.func244, Tryz.ntmps244
    go_wp2_with fail
    refine (Sh.serves_any legs souls cao (some ⟨bb, off, none⟩) cc bc cs bs c.2.1 b.cat _ (hv.below (by go_grown))).mono ?_
    rintro e w1 ⟨rfl, hb1⟩
    rw [hsE, hsB, hsv]
    go_wp2
    go_ret
    exact ⟨ret_int (by rw [HE.out, hsv]; rfl), bvia (by go_grown) hb1⟩
  · go_enter Tryz.func244, Tryz.ntmps244
    go_wp2_with fail
    refine (Sh.serves_any legs souls cao (some ⟨bb, off, none⟩) cc bc cs bs c.2.1 b.cat _ (hv.below (by go_grown))).mono ?_
    rintro e w1 ⟨rfl, hb1⟩
    rw [hsE, hsB, hsv]
    have x0 : w1.cell? ⟨w.heap.size + 1, 0, none⟩ = some (.int .i64 b.id) := cellIn hb1 (by go_simp)
    have x1 : w1.cell? ⟨w.heap.size + 1, 1, none⟩ = some (.int .i64 b.kind) := cellIn hb1 (by go_simp)
    have x2 : w1.cell? ⟨w.heap.size + 1, 2, none⟩ = some (.int .i64 b.state) := cellIn hb1 (by go_simp)
    have x3 : w1.cell? ⟨w.heap.size + 1, 3, none⟩ = some (.int .i64 b.guests) := cellIn hb1 (by go_simp)
    have x4 : w1.cell? ⟨w.heap.size + 1, 4, none⟩ = some (.bool b.level) := cellIn hb1 (by go_simp)
    have x5 : w1.cell? ⟨w.heap.size + 1, 5, none⟩ = some (.int .i64 b.cabin) := cellIn hb1 (by go_simp)
    have x6 : w1.cell? ⟨w.heap.size + 1, 6, none⟩ = some (.int .i64 b.cat) := cellIn hb1 (by go_simp)
    have x7 : w1.cell? ⟨w.heap.size + 1, 7, none⟩ = some (.int .i64 b.frm) := cellIn hb1 (by go_simp)
    have x8 : w1.cell? ⟨w.heap.size + 1, 8, none⟩ = some (.int .i64 b.to) := cellIn hb1 (by go_simp)
    have x9 : w1.cell? ⟨w.heap.size + 1, 9, none⟩ = some (.int .i64 b.til) := cellIn hb1 (by go_simp)
    have x10 : w1.cell? ⟨w.heap.size + 1, 10, none⟩ = some (.slice fo b.fol.length fc) := cellIn hb1 (by go_simp)
    have y0 : w1.cell? ⟨w.heap.size + 1 + 1, 0, none⟩ = some (.string c.1) := cellIn hb1 (by go_simp)
    have y1 : w1.cell? ⟨w.heap.size + 1 + 1, 1, none⟩ = some (.int .i64 c.2.1) := cellIn hb1 (by go_simp)
    have y2 : w1.cell? ⟨w.heap.size + 1 + 1, 2, none⟩ = some (.int .i64 c.2.2.1) := cellIn hb1 (by go_simp)
    have y3 : w1.cell? ⟨w.heap.size + 1 + 1, 3, none⟩ = some (.bool c.2.2.2) := cellIn hb1 (by go_simp)
    cases hsu : P.suits c b
    · go_wp2_with (go_at_call 243; refine (suits_any c b fo fc _).mono ?_; rintro e w2 ⟨rfl, hb2⟩; rw [hsu])
      go_ret
      exact ⟨ret_int (by rw [HE.out, hsv, hsu]; rfl), bvia (bvia (by go_grown) hb1) hb2⟩
    · go_wp2_with (go_at_call 243; refine (suits_any c b fo fc _).mono ?_; rintro e w2 ⟨rfl, hb2⟩; rw [hsu])
      go_ret
      exact ⟨ret_int (by rw [HE.out, hsv, hsu]; rfl), bvia (bvia (by go_grown) hb1) hb2⟩

set_option maxHeartbeats 1000000 in
theorem checkPromise_any (s : Vsl) (a : VslA) (b : Bkg) (fo : Option Addr) (fc : Nat) (w : World) (hs : VslAt w s a) (h0 : P.shp s = 0) :
    Calls Tryz.prog 234 #[V.vsl s a, V.bk b fo fc] w fun e w' => e = .returned (.int .i64 (P.promE s b)) ∧ Below w.heap.size w w' := by
  obtain ⟨_, _, _, _, _, hcs, _, hbs⟩ := shp_size h0
  have hbt := two_below w s a b fo fc
  have hbx := two_b w s a b fo fc
  have hvx := two_v w s a b fo fc
  cases hy : P.btw b.cat 0 ((s.cs.length : Int) - 1)
  · have HE : Aside (P.promE s b = 3) := by show _ = _; rw [P.promE, if_neg (by simp [hy])]
    go_enter Tryz.func234, Tryz.ntmps234
    go_wp2_with (go_at_call 184; refine (within_any _ _ _ _).mono ?_; rintro e w1 ⟨rfl, rfl⟩; rw [hy])
    go_ret
    exact ⟨ret_int HE.out.symm, hbt⟩
  have hy' : 0 ≤ b.cat ∧ b.cat < s.cs.length := by simp [P.btw] at hy; omega
  have HY : Aside (0 ≤ b.cat ∧ b.cat < s.cs.length) := hy'
  clear hy'
  cases h1 : (b.frm == 0)
  · have HE : Aside (P.promE s b = 4) := by show _ = _; rw [P.promE, if_pos hy, if_neg (by simp at h1; simp [h1])]
    go_enter Tryz.func234, Tryz.ntmps234
    go_wp2_with (go_at_call 184; refine (within_any _ _ _ _).mono ?_; rintro e w1 ⟨rfl, rfl⟩; rw [hy])
    go_ret
    exact ⟨ret_int HE.out.symm, hbt⟩
  cases h2 : (b.to == s.legs)
  · have HE : Aside (P.promE s b = 4) := by show _ = _; rw [P.promE, if_pos hy, if_neg (by simp at h2; simp [h2])]
    go_enter Tryz.func234, Tryz.ntmps234
    go_wp2_with (go_at_call 184; refine (within_any _ _ _ _).mono ?_; rintro e w1 ⟨rfl, rfl⟩; rw [hy])
    go_ret
    exact ⟨ret_int HE.out.symm, hbt⟩
  have h12 : b.frm = 0 ∧ b.to = s.legs := by simpa using And.intro h1 h2
  have H12 : Aside (b.frm = 0 ∧ b.to = s.legs) := h12
  clear h12
  cases h3 : (b.cabin == -1)
  rotate_left
  · have HE : Aside (P.promE s b = 0) := by show _ = _; rw [P.promE, if_pos hy, if_pos H12.out, if_pos (by simpa using h3)]
    go_enter Tryz.func234, Tryz.ntmps234
    go_wp2_with (go_at_call 184; refine (within_any _ _ _ _).mono ?_; rintro e w1 ⟨rfl, rfl⟩; rw [hy])
    go_ret
    exact ⟨ret_int HE.out.symm, hbt⟩
  cases hc : P.cabB s b.cabin
  · have HE : Aside (P.promE s b = 3) := by show _ = _; rw [P.promE, if_pos hy, if_pos H12.out, if_neg (by simpa using h3), if_neg (by simp [hc])]
    go_enter Tryz.func234, Tryz.ntmps234
    go_wp2_with (first
      | (go_at_call 184; refine (within_any _ _ _ _).mono ?_; rintro e w1 ⟨rfl, rfl⟩; rw [hy])
      | (go_at_call 150; refine (isCabin_any s a _ _ (by omega)).mono ?_; rintro e w1 ⟨rfl, hb1⟩; rw [hc]))
    go_ret
    exact ⟨ret_int HE.out.symm, bvia hbt hb1⟩
  · have HE : Aside (P.promE s b = P.eligE s b) := by show _ = _; rw [P.promE, if_pos hy, if_pos H12.out, if_neg (by simpa using h3), if_pos hc]; rfl
    go_enter Tryz.func234, Tryz.ntmps234
    go_wp2_with (first
      | (go_at_call 184; refine (within_any _ _ _ _).mono ?_; rintro e w1 ⟨rfl, rfl⟩; rw [hy])
      | (go_at_call 150; refine (isCabin_any s a _ _ (by omega)).mono ?_; rintro e w1 ⟨rfl, hb1⟩; rw [hc]; obtain ⟨x0, x1, x2, x3, x4, x5, x6, x7, x8, x9, x10⟩ := hbx.below hb1; obtain ⟨v0, v1, v2, v3⟩ := hvx.below hb1)
      | (go_at_call 244; refine (checkEligible_any s a b fo fc _ (hs.below (bvia hbt hb1)) h0 hc HY.out).mono ?_; rintro e w2 ⟨rfl, hb2⟩))
    go_ret
    exact ⟨ret_int HE.out.symm, bvia (bvia hbt hb1) hb2⟩

set_option maxHeartbeats 1000000 in
theorem checkKind_any (s : Vsl) (a : VslA) (b : Bkg) (fo : Option Addr) (fc : Nat) (w : World) (hs : VslAt w s a) (h0 : P.shp s = 0) :
    Calls Tryz.prog 185 #[V.vsl s a, V.bk b fo fc] w fun e w' => e = .returned (.int .i64 (P.kindE s b)) ∧ Below w.heap.size w w' := by
  have hbt := two_below w s a b fo fc
  cases h1 : (b.kind == 1)
  · have HE : Aside (P.kindE s b = P.promE s b) := by show _ = _; rw [P.kindE, if_neg (by simpa using h1)]
    go_enter Tryz.func185, Tryz.ntmps185
    go_wp2_with (go_at_call 234; refine (checkPromise_any s a b fo fc _ (hs.below hbt) h0).mono ?_; rintro e w1 ⟨rfl, hb1⟩)
    go_ret
    exact ⟨ret_int HE.out.symm, bvia hbt hb1⟩
  · have HE : Aside (P.kindE s b = P.namedE s b) := by show _ = _; rw [P.kindE, if_pos (by simpa using h1)]
    go_enter Tryz.func185, Tryz.ntmps185
    go_wp2_with (go_at_call 233; refine (checkNamed_any s a b fo fc _ (hs.below hbt) h0).mono ?_; rintro e w1 ⟨rfl, hb1⟩)
    go_ret
    exact ⟨ret_int HE.out.symm, bvia hbt hb1⟩

end Go.Proofs.YtlamhfbdeinkkaeGreat.Bk

/- Walks of checkOn, checkAll, Check. -/
namespace Go.Proofs.YtlamhfbdeinkkaeGreat.Bk
open Go.RowKit
set_option linter.unusedSimpArgs false
set_option linter.unusedVariables false

section
variable {s : Vsl} {b : Bkg}
theorem bkE_kind (h : (P.btw b.kind 1 2 && P.btw b.state 1 3) = false) : P.bkE s b = 7 := by rw [P.bkE, if_neg (by simp [h])]
theorem bkE_range (h : (P.btw b.kind 1 2 && P.btw b.state 1 3) = true) (h1 : (P.btw b.id 1 999999 && P.btw b.guests 1 4) = false) : P.bkE s b = 3 := by rw [P.bkE, if_pos h, if_neg (by simp [h1])]
theorem bkE_span (h : (P.btw b.kind 1 2 && P.btw b.state 1 3) = true) (h1 : (P.btw b.id 1 999999 && P.btw b.guests 1 4) = true) (h2 : (P.chk b.frm b.to s.legs != 0) = true) : P.bkE s b = P.chk b.frm b.to s.legs := by
  rw [P.bkE, if_pos h, if_pos h1, if_neg (by simpa using h2)]
theorem bkE_kindE (h : (P.btw b.kind 1 2 && P.btw b.state 1 3) = true) (h1 : (P.btw b.id 1 999999 && P.btw b.guests 1 4) = true) (h2 : (P.chk b.frm b.to s.legs != 0) = false) (h3 : (P.kindE s b != 0) = true) : P.bkE s b = P.kindE s b := by
  rw [P.bkE, if_pos h, if_pos h1, if_pos (by simpa using h2), if_neg (by simpa using h3)]
theorem bkE_til (h : (P.btw b.kind 1 2 && P.btw b.state 1 3) = true) (h1 : (P.btw b.id 1 999999 && P.btw b.guests 1 4) = true) (h2 : (P.chk b.frm b.to s.legs != 0) = false) (h3 : (P.kindE s b != 0) = false) (h4 : P.btw b.til 0 9999 = false) : P.bkE s b = 3 := by
  rw [P.bkE, if_pos h, if_pos h1, if_pos (by simpa using h2), if_pos (by simpa using h3), if_neg (by simp [h4])]
theorem bkE_form (h : (P.btw b.kind 1 2 && P.btw b.state 1 3) = true) (h1 : (P.btw b.id 1 999999 && P.btw b.guests 1 4) = true) (h2 : (P.chk b.frm b.to s.legs != 0) = false) (h3 : (P.kindE s b != 0) = false) (h4 : P.btw b.til 0 9999 = true)
    (h5 : b.til ≠ 0 ∧ b.state ≠ 1) : P.bkE s b = 1 := by
  rw [P.bkE, if_pos h, if_pos h1, if_pos (by simpa using h2), if_pos (by simpa using h3), if_pos h4, if_pos h5]
theorem bkE_fol (h : (P.btw b.kind 1 2 && P.btw b.state 1 3) = true) (h1 : (P.btw b.id 1 999999 && P.btw b.guests 1 4) = true) (h2 : (P.chk b.frm b.to s.legs != 0) = false) (h3 : (P.kindE s b != 0) = false) (h4 : P.btw b.til 0 9999 = true)
    (h5 : ¬ (b.til ≠ 0 ∧ b.state ≠ 1)) : P.bkE s b = Fo.P.folE b.fol := by
  rw [P.bkE, if_pos h, if_pos h1, if_pos (by simpa using h2), if_pos (by simpa using h3), if_pos h4, if_neg h5]
end

set_option maxHeartbeats 4000000 in
theorem checkOn_any (s : Vsl) (a : VslA) (b : Bkg) (fo : Option Addr) (fc : Nat) (w : World) (hs : VslAt w s a) (hf : Fo.EntsAt w fo fc b.fol) (h0 : P.shp s = 0) :
    Calls Tryz.prog 124 #[V.vsl s a, V.bk b fo fc] w fun e w' => e = .returned (.int .i64 (P.bkE s b)) ∧ Below w.heap.size w w' := by
  have hbt := two_below w s a b fo fc
  have hbx := two_b w s a b fo fc
  have hvx := two_v w s a b fo fc
  cases hk : P.btw b.kind 1 2
  · have HE : Aside (P.bkE s b = 7) := bkE_kind (by rw [hk]; rfl)
    go_enter Tryz.func124, Tryz.ntmps124
    go_wp2_with (go_at_call 184; refine (within_any _ _ _ _).mono ?_; rintro e w1 ⟨rfl, rfl⟩; first | rw [hk])
    go_ret
    exact ⟨ret_int HE.out.symm, hbt⟩
  cases hst : P.btw b.state 1 3
  · have HE : Aside (P.bkE s b = 7) := bkE_kind (by rw [hk, hst]; rfl)
    go_enter Tryz.func124, Tryz.ntmps124
    go_wp2_with (go_at_call 184; refine (within_any _ _ _ _).mono ?_; rintro e w1 ⟨rfl, rfl⟩; first | rw [hk] | rw [hst])
    go_ret
    exact ⟨ret_int HE.out.symm, hbt⟩
  have H1 : Aside ((P.btw b.kind 1 2 && P.btw b.state 1 3) = true) := by show _ = _; rw [hk, hst]; rfl
  cases hid : P.btw b.id 1 999999
  · have HE : Aside (P.bkE s b = 3) := bkE_range H1.out (by rw [hid]; rfl)
    go_enter Tryz.func124, Tryz.ntmps124
    go_wp2_with (go_at_call 184; refine (within_any _ _ _ _).mono ?_; rintro e w1 ⟨rfl, rfl⟩; first | rw [hk] | rw [hst] | rw [hid])
    go_ret
    exact ⟨ret_int HE.out.symm, hbt⟩
  cases hg : P.btw b.guests 1 4
  · have HE : Aside (P.bkE s b = 3) := bkE_range H1.out (by rw [hid, hg]; rfl)
    go_enter Tryz.func124, Tryz.ntmps124
    go_wp2_with (go_at_call 184; refine (within_any _ _ _ _).mono ?_; rintro e w1 ⟨rfl, rfl⟩; first | rw [hk] | rw [hst] | rw [hid] | rw [hg])
    go_ret
    exact ⟨ret_int HE.out.symm, hbt⟩
  have H2 : Aside ((P.btw b.id 1 999999 && P.btw b.guests 1 4) = true) := by show _ = _; rw [hid, hg]; rfl
  cases hz : (P.chk b.frm b.to s.legs != 0)
  rotate_left
  · have HE : Aside (P.bkE s b = P.chk b.frm b.to s.legs) := bkE_span H1.out H2.out hz
    go_enter Tryz.func124, Tryz.ntmps124
    go_wp2_with (first
      | (go_at_call 184; refine (within_any _ _ _ _).mono ?_; rintro e w1 ⟨rfl, rfl⟩; first | rw [hk] | rw [hst] | rw [hid] | rw [hg])
      | (go_at_call 58; refine (Sp.check_any _ _ _ _).mono ?_; rintro e w1 ⟨rfl, hb1⟩))
    go_ret
    exact ⟨ret_int HE.out.symm, bvia hbt hb1⟩
  cases hq : (P.kindE s b != 0)
  rotate_left
  · have HE : Aside (P.bkE s b = P.kindE s b) := bkE_kindE H1.out H2.out hz hq
    go_enter Tryz.func124, Tryz.ntmps124
    go_wp2_with (first
      | (go_at_call 184; refine (within_any _ _ _ _).mono ?_; rintro e w1 ⟨rfl, rfl⟩; first | rw [hk] | rw [hst] | rw [hid] | rw [hg])
      | (go_at_call 58; refine (Sp.check_any _ _ _ _).mono ?_; rintro e w1 ⟨rfl, hb1⟩; obtain ⟨x0, x1, x2, x3, x4, x5, x6, x7, x8, x9, x10⟩ := hbx.below hb1; obtain ⟨v0, v1, v2, v3⟩ := hvx.below hb1)
      | (go_at_call 185; refine (checkKind_any s a b fo fc _ (hs.below (bvia hbt hb1)) h0).mono ?_; rintro e w2 ⟨rfl, hb2⟩))
    go_ret
    exact ⟨ret_int HE.out.symm, bvia (bvia hbt hb1) hb2⟩
  cases ht : P.btw b.til 0 9999
  · have HE : Aside (P.bkE s b = 3) := bkE_til H1.out H2.out hz hq ht
    go_enter Tryz.func124, Tryz.ntmps124
    go_wp2_with (first
      | (go_at_call 184; refine (within_any _ _ _ _).mono ?_; rintro e w1 ⟨rfl, rfl⟩; first | rw [hk] | rw [hst] | rw [hid] | rw [hg] | rw [ht])
      | (go_at_call 58; refine (Sp.check_any _ _ _ _).mono ?_; rintro e w1 ⟨rfl, hb1⟩; obtain ⟨x0, x1, x2, x3, x4, x5, x6, x7, x8, x9, x10⟩ := hbx.below hb1; obtain ⟨v0, v1, v2, v3⟩ := hvx.below hb1)
      | (go_at_call 185; refine (checkKind_any s a b fo fc _ (hs.below (bvia hbt hb1)) h0).mono ?_; rintro e w2 ⟨rfl, hb2⟩; obtain ⟨z0, z1, z2, z3, z4, z5, z6, z7, z8, z9, z10⟩ := (hbx.below hb1).below hb2))
    go_ret
    exact ⟨ret_int HE.out.symm, bvia (bvia hbt hb1) hb2⟩
  cases hu : (b.til != 0)
  · have HE : Aside (P.bkE s b = Fo.P.folE b.fol) := bkE_fol H1.out H2.out hz hq ht (by simp at hu; simp [hu])
    go_enter Tryz.func124, Tryz.ntmps124
    go_wp2_with (first
      | (go_at_call 184; refine (within_any _ _ _ _).mono ?_; rintro e w1 ⟨rfl, rfl⟩; first | rw [hk] | rw [hst] | rw [hid] | rw [hg] | rw [ht])
      | (go_at_call 58; refine (Sp.check_any _ _ _ _).mono ?_; rintro e w1 ⟨rfl, hb1⟩; obtain ⟨x0, x1, x2, x3, x4, x5, x6, x7, x8, x9, x10⟩ := hbx.below hb1; obtain ⟨v0, v1, v2, v3⟩ := hvx.below hb1)
      | (go_at_call 185; refine (checkKind_any s a b fo fc _ (hs.below (bvia hbt hb1)) h0).mono ?_; rintro e w2 ⟨rfl, hb2⟩; obtain ⟨z0, z1, z2, z3, z4, z5, z6, z7, z8, z9, z10⟩ := (hbx.below hb1).below hb2)
      | (go_at_call 83; refine (Fo.folCheck_any fo fc b.fol _ (SlAt.below Fo.REnt.mono hf (bvia (bvia hbt hb1) hb2))).mono ?_; rintro e w3 ⟨rfl, hb3⟩))
    go_ret
    exact ⟨ret_int HE.out.symm, bvia (bvia (bvia hbt hb1) hb2) hb3⟩
  · cases hv : (b.state != 1)
    · have HE : Aside (P.bkE s b = Fo.P.folE b.fol) := bkE_fol H1.out H2.out hz hq ht (by simp at hv; simp [hv])
      go_enter Tryz.func124, Tryz.ntmps124
      go_wp2_with (first
        | (go_at_call 184; refine (within_any _ _ _ _).mono ?_; rintro e w1 ⟨rfl, rfl⟩; first | rw [hk] | rw [hst] | rw [hid] | rw [hg] | rw [ht])
        | (go_at_call 58; refine (Sp.check_any _ _ _ _).mono ?_; rintro e w1 ⟨rfl, hb1⟩; obtain ⟨x0, x1, x2, x3, x4, x5, x6, x7, x8, x9, x10⟩ := hbx.below hb1; obtain ⟨v0, v1, v2, v3⟩ := hvx.below hb1)
        | (go_at_call 185; refine (checkKind_any s a b fo fc _ (hs.below (bvia hbt hb1)) h0).mono ?_; rintro e w2 ⟨rfl, hb2⟩; obtain ⟨z0, z1, z2, z3, z4, z5, z6, z7, z8, z9, z10⟩ := (hbx.below hb1).below hb2)
        | (go_at_call 83; refine (Fo.folCheck_any fo fc b.fol _ (SlAt.below Fo.REnt.mono hf (bvia (bvia hbt hb1) hb2))).mono ?_; rintro e w3 ⟨rfl, hb3⟩))
      go_ret
      exact ⟨ret_int HE.out.symm, bvia (bvia (bvia hbt hb1) hb2) hb3⟩
    · have HE : Aside (P.bkE s b = 1) := bkE_form H1.out H2.out hz hq ht (by simp at hu hv; exact ⟨hu, hv⟩)
      go_enter Tryz.func124, Tryz.ntmps124
      go_wp2_with (first
        | (go_at_call 184; refine (within_any _ _ _ _).mono ?_; rintro e w1 ⟨rfl, rfl⟩; first | rw [hk] | rw [hst] | rw [hid] | rw [hg] | rw [ht])
        | (go_at_call 58; refine (Sp.check_any _ _ _ _).mono ?_; rintro e w1 ⟨rfl, hb1⟩; obtain ⟨x0, x1, x2, x3, x4, x5, x6, x7, x8, x9, x10⟩ := hbx.below hb1; obtain ⟨v0, v1, v2, v3⟩ := hvx.below hb1)
        | (go_at_call 185; refine (checkKind_any s a b fo fc _ (hs.below (bvia hbt hb1)) h0).mono ?_; rintro e w2 ⟨rfl, hb2⟩; obtain ⟨z0, z1, z2, z3, z4, z5, z6, z7, z8, z9, z10⟩ := (hbx.below hb1).below hb2))
      go_ret
      exact ⟨ret_int HE.out.symm, bvia (bvia hbt hb1) hb2⟩

/-- G1. -/
def P.checkE (s : Vsl) (b : Bkg) : Int := if P.shp s = 0 then P.bkE s b else P.shp s

set_option maxHeartbeats 1000000 in
theorem bookCheck_any (s : Vsl) (a : VslA) (b : Bkg) (fo : Option Addr) (fc : Nat) (w : World) (hs : VslAt w s a) (hf : Fo.EntsAt w fo fc b.fol) :
    Calls Tryz.prog 71 #[V.vsl s a, V.bk b fo fc] w fun e w' => e = .returned (.int .i64 (P.checkE s b)) ∧ Below w.heap.size w w' := by
  have hbt := two_below w s a b fo fc
  have hbx := two_b w s a b fo fc
  have hvx := two_v w s a b fo fc
  cases hz : (P.shp s != 0)
  · have hz0 : P.shp s = 0 := by simpa using hz
    have HE : Aside (P.checkE s b = P.bkE s b) := by show _ = _; rw [P.checkE, if_pos hz0]
    have HZ : Aside (P.shp s = 0) := hz0
    clear hz0
    go_enter Tryz.func71, Tryz.ntmps71
    go_wp2_with (first
      | (go_at_call 104; refine (shp_any s a _ (hs.below hbt)).mono ?_; rintro e w1 ⟨rfl, hb1⟩; obtain ⟨x0, x1, x2, x3, x4, x5, x6, x7, x8, x9, x10⟩ := hbx.below hb1; obtain ⟨v0, v1, v2, v3⟩ := hvx.below hb1)
      | (go_at_call 124; refine (checkOn_any s a b fo fc _ (hs.below (bvia hbt hb1)) (SlAt.below Fo.REnt.mono hf (bvia hbt hb1)) HZ.out).mono ?_; rintro e w2 ⟨rfl, hb2⟩))
    go_ret
    exact ⟨ret_int HE.out.symm, bvia (bvia hbt hb1) hb2⟩
  · have HE : Aside (P.checkE s b = P.shp s) := by show _ = _; rw [P.checkE, if_neg (by simpa using hz)]
    go_enter Tryz.func71, Tryz.ntmps71
    go_wp2_with (go_at_call 104; refine (shp_any s a _ (hs.below hbt)).mono ?_; rintro e w1 ⟨rfl, hb1⟩)
    go_ret
    exact ⟨ret_int HE.out.symm, bvia hbt hb1⟩

end Go.Proofs.YtlamhfbdeinkkaeGreat.Bk
