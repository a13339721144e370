/- Walks of checkNamed, checkEligible, checkPromise, checkKind, checkOn. -/
import Derived.Test.YtgopdnlmiloipadBkA
namespace Go.Proofs.Ytgopdnlmiloipad.Bk
open Go.RowKit
set_option linter.unusedSimpArgs false
set_option linter.unusedVariables false

def P.cabAt (s : Vsl) (n : Int) : Sh.Cab := s.bs.getD n.toNat (ByteArray.empty, 0, 0, false)
def P.namedE (s : Vsl) (b : Bkg) : Int := if P.cabB s b.cabin = true then (if b.cat = 0 then (if P.suits (P.cabAt s b.cabin) b = true then 0 else 4) else 1) else 3
def P.elig (s : Vsl) (b : Bkg) (n : Int) : Bool := Sh.P.serves s.cs (P.cabAt s n).2.1 b.cat && P.suits (P.cabAt s n) b
def P.promE (s : Vsl) (b : Bkg) : Int :=
  if P.btw b.cat 0 ((s.cs.length : Int) - 1) = true then (if b.frm = 0 ∧ b.to = s.legs then (if b.cabin = -1 then 0 else if P.cabB s b.cabin = true then (if P.elig s b b.cabin = true then 0 else 4) else 3) else 4) else 3
def P.kindE (s : Vsl) (b : Bkg) : Int := if b.kind = 1 then P.namedE s b else P.promE s b
/-- G1 of a booking, on a ship that is right. -/
def P.bkE (s : Vsl) (b : Bkg) : Int :=
  if (P.btw b.kind 1 2 && P.btw b.state 1 3) = true then
    (if (P.btw b.id 1 999999 && P.btw b.guests 1 4) = true then
      (if P.chk b.frm b.to s.legs = 0 then
        (if P.kindE s b = 0 then (if P.btw b.til 0 9999 = true then (if b.til ≠ 0 ∧ b.state ≠ 1 then 1 else Fo.P.folE b.fol) else 3) else P.kindE s b)
      else P.chk b.frm b.to s.legs)
    else 3)
  else 7

theorem cab_get {w w' : World} {s : Vsl} {a : VslA} (h : VslAt w s a) (hB : Below w.heap.size w w') {n : Int} (hn : P.cabB s n = true) :
    ∃ (k : Nat) (b off : Nat) (c : Sh.Cab), n = k ∧ k < s.bs.length ∧ P.cabAt s n = c ∧ c ∈ s.bs ∧ a.bao = some ⟨b, off, none⟩ ∧ w'.cell? ⟨b, off + k * 4, none⟩ = some (.string c.1) ∧ w'.cell? ⟨b, off + k * 4 + 1, none⟩ = some (.int .i64 c.2.1) ∧ w'.cell? ⟨b, off + k * 4 + 2, none⟩ = some (.int .i64 c.2.2.1) ∧ w'.cell? ⟨b, off + k * 4 + 3, none⟩ = some (.bool c.2.2.2) := by
  simp [P.cabB, P.btw] at hn
  obtain ⟨k, rfl⟩ : ∃ k : Nat, n = k := ⟨n.toNat, by omega⟩
  have hk : k < s.bs.length := by omega
  obtain ⟨b, off, nm, c, be, lv, e1, _, hd, c0, c1, c2, c3, _⟩ := Sh.CabsAt.get h.cabs hB k hk
  have e : s.bs[k] = (nm, c, be, lv) := Fo.getA hk hd
  refine ⟨k, b, off, (nm, c, be, lv), rfl, hk, ?_, Fo.memA hk hd, e1, c0, c1, c2, c3⟩
  rw [← e]
  simp [P.cabAt, List.getD, hk]

/-- A ship, and a booking, in blocks of their own. -/
structure VBox (w : World) (g : Nat) (s : Vsl) (a : VslA) : Prop where
  c0 : w.cell? ⟨g, 0, none⟩ = some (.int .i64 s.legs)
  c1 : w.cell? ⟨g, 1, none⟩ = some (.int .i64 s.souls)
  c2 : w.cell? ⟨g, 2, none⟩ = some (.slice a.cao s.cs.length a.cc)
  c3 : w.cell? ⟨g, 3, none⟩ = some (.slice a.bao s.bs.length a.bc)
structure BBox (w : World) (g : Nat) (x : Bkg) (fo : Option Addr) (fc : Nat) : Prop where
  c0 : w.cell? ⟨g, 0, none⟩ = some (.int .i64 x.id)
  c1 : w.cell? ⟨g, 1, none⟩ = some (.int .i64 x.kind)
  c2 : w.cell? ⟨g, 2, none⟩ = some (.int .i64 x.state)
  c3 : w.cell? ⟨g, 3, none⟩ = some (.int .i64 x.guests)
  c4 : w.cell? ⟨g, 4, none⟩ = some (.bool x.level)
  c5 : w.cell? ⟨g, 5, none⟩ = some (.int .i64 x.cabin)
  c6 : w.cell? ⟨g, 6, none⟩ = some (.int .i64 x.cat)
  c7 : w.cell? ⟨g, 7, none⟩ = some (.int .i64 x.frm)
  c8 : w.cell? ⟨g, 8, none⟩ = some (.int .i64 x.to)
  c9 : w.cell? ⟨g, 9, none⟩ = some (.int .i64 x.til)
  c10 : w.cell? ⟨g, 10, none⟩ = some (.slice fo x.fol.length fc)
theorem VBox.below {w w' : World} {g : Nat} {s : Vsl} {a : VslA} (h : VBox w g s a) (hb : Below w.heap.size w w') : VBox w' g s a := ⟨cellIn hb h.c0, cellIn hb h.c1, cellIn hb h.c2, cellIn hb h.c3⟩
theorem BBox.below {w w' : World} {g : Nat} {x : Bkg} {fo : Option Addr} {fc : Nat} (h : BBox w g x fo fc) (hb : Below w.heap.size w w') : BBox w' g x fo fc :=
  ⟨cellIn hb h.c0, cellIn hb h.c1, cellIn hb h.c2, cellIn hb h.c3, cellIn hb h.c4, cellIn hb h.c5, cellIn hb h.c6, cellIn hb h.c7, cellIn hb h.c8, cellIn hb h.c9, cellIn hb h.c10⟩
theorem VBox.new (w : World) (s : Vsl) (a : VslA) : VBox (w.alloc (.cells #[.int .i64 s.legs, .int .i64 s.souls, .slice a.cao s.cs.length a.cc, .slice a.bao s.bs.length a.bc] 25)) w.heap.size s a := ⟨by simp, by simp, by simp, by simp⟩
theorem BBox.new (w : World) (b : Bkg) (fo : Option Addr) (fc : Nat) :
    BBox (w.alloc (.cells #[.int .i64 b.id, .int .i64 b.kind, .int .i64 b.state, .int .i64 b.guests, .bool b.level, .int .i64 b.cabin, .int .i64 b.cat, .int .i64 b.frm, .int .i64 b.to, .int .i64 b.til, .slice fo b.fol.length fc] 30)) w.heap.size b fo fc :=
  ⟨by simp, by simp, by simp, by simp, by simp, by simp, by simp, by simp, by simp, by simp, by simp⟩

/-- The world behind the boxes of a ship and a booking. -/
abbrev W.two (w : World) (s : Vsl) (a : VslA) (b : Bkg) (fo : Option Addr) (fc : Nat) : World :=
  (w.alloc (.cells #[.int .i64 s.legs, .int .i64 s.souls, .slice a.cao s.cs.length a.cc, .slice a.bao s.bs.length a.bc] 25)).alloc (.cells #[.int .i64 b.id, .int .i64 b.kind, .int .i64 b.state, .int .i64 b.guests, .bool b.level, .int .i64 b.cabin, .int .i64 b.cat, .int .i64 b.frm, .int .i64 b.to, .int .i64 b.til, .slice fo b.fol.length fc] 30)
theorem two_below (w : World) (s : Vsl) (a : VslA) (b : Bkg) (fo : Option Addr) (fc : Nat) : Below w.heap.size w (W.two w s a b fo fc) := by go_grown
theorem two_v (w : World) (s : Vsl) (a : VslA) (b : Bkg) (fo : Option Addr) (fc : Nat) : VBox (W.two w s a b fo fc) w.heap.size s a := (VBox.new w s a).below (by go_grown)
theorem two_b (w : World) (s : Vsl) (a : VslA) (b : Bkg) (fo : Option Addr) (fc : Nat) : BBox (W.two w s a b fo fc) (w.heap.size + 1) b fo fc := by
  have := BBox.new (w.alloc (.cells #[.int .i64 s.legs, .int .i64 s.souls, .slice a.cao s.cs.length a.cc, .slice a.bao s.bs.length a.bc] 25)) b fo fc
  rwa [World.size_alloc] at this

set_option maxHeartbeats 1000000 in
theorem checkNamed_any (s : Vsl) (a : VslA) (b : Bkg) (fo : Option Addr) (fc : Nat) (w : World) (hs : VslAt w s a) (h0 : P.shp s = 0) :
    Calls Try.prog 66 #[V.vsl s a, V.bk b fo fc] w fun e w' => e = .returned (.int .i64 (P.namedE s b)) ∧ Below w.heap.size w w' := by
  obtain ⟨_, _, _, _, _, _, _, hbs⟩ := shp_size h0
  have hbt := two_below w s a b fo fc
  have hbx := two_b w s a b fo fc
  have hvx := two_v w s a b fo fc
  cases hc : P.cabB s b.cabin
  · have HE : Aside (P.namedE s b = 3) := by show _ = _; rw [P.namedE, if_neg (by simp [hc])]
    go_enter Try.func66, Try.ntmps66
    go_wp2_with (go_at_call 19; refine (isCabin_any s a _ _ (by omega)).mono ?_; rintro e w1 ⟨rfl, hb1⟩; rw [hc])
    go_ret
    exact ⟨ret_int HE.out.symm, bvia hbt hb1⟩
  · cases h6 : (b.cat == 0)
    · have HE : Aside (P.namedE s b = 1) := by show _ = _; rw [P.namedE, if_pos hc, if_neg (by simpa using h6)]
      go_enter Try.func66, Try.ntmps66
      go_wp2_with (go_at_call 19; refine (isCabin_any s a _ _ (by omega)).mono ?_; rintro e w1 ⟨rfl, hb1⟩; rw [hc]; have hx := (hbx.below hb1).c6)
      go_ret
      exact ⟨ret_int HE.out.symm, bvia hbt hb1⟩
    · have HE : Aside (P.namedE s b = if P.suits (P.cabAt s b.cabin) b = true then 0 else 4) := by show _ = _; rw [P.namedE, if_pos hc, if_pos (by simpa using h6)]
      go_enter Try.func66, Try.ntmps66
      go_wp2_with fail
      refine (isCabin_any s a _ _ (by omega)).mono ?_
      rintro e w1 ⟨rfl, hb1⟩
      rw [hc]
      have hB1 : Below w.heap.size w w1 := bvia hbt hb1
      obtain ⟨k, bb, off, c, ek, hk, ec, _, ebao, q0, q1, q2, q3⟩ := cab_get hs hB1 hc
      rw [ec] at HE
      obtain ⟨x0, x1, x2, x3, x4, x5, x6, x7, x8, x9, x10⟩ := hbx.below hb1
      obtain ⟨v0, v1, v2, v3⟩ := hvx.below hb1
      have hk1 : (k : Int) < s.bs.length := by omega
      have hk2 : (0 : Int) ≤ k := by omega
      rw [ebao] at v3
      have x5' := x5
      rw [ek] at x5
      have r0 := cell_regrown x0
      have r1 := cell_regrown x1
      have r2 := cell_regrown x2
      have r3 := cell_regrown x3
      have r4 := cell_regrown x4
      have r5 := cell_regrown x5
      have r6 := cell_regrown x6
      have r7 := cell_regrown x7
      have r8 := cell_regrown x8
      have r9 := cell_regrown x9
      have r10 := cell_regrown x10
      have t0 := cell_regrown v0
      have t1 := cell_regrown v1
      have t2 := cell_regrown v2
      have t3 := cell_regrown v3
      have u0 := cell_regrown q0
      have u1 := cell_regrown q1
      have u2 := cell_regrown q2
      have u3 := cell_regrown q3
      have EK : Aside (b.cabin = k) := ek
      clear hc ek x5'
      clear hbx hvx hbt
      go_wp2
      refine wp_region_quiet_below (by kernel_rfl) (by kernel_rfl) ?_
      repeat (quiet_step ((go_at_call 74; exact Calls.regrown_of ((by rw [← EK.out]; exact suits_any c b fo fc _)))))
      refine wpQuiet_nil ?_
      intro w2 hw2
      obtain ⟨⟨dq, osq⟩, hw2⟩ := hw2
      have hb2 := below_regrown w1 dq osq
      rw [← hw2] at hb2
      clear hw2 r0 r1 r2 r3 r4 r5 r6 r7 r8 r9 r10 t0 t1 t2 t3 u0 u1 u2 u3
      cases hsu : P.suits c b
      · go_wp2
        go_ret
        exact ⟨ret_int (by rw [HE.out, hsu]; rfl), bvia hB1 hb2⟩
      · go_wp2
        go_ret
        exact ⟨ret_int (by rw [HE.out, hsu]; rfl), bvia hB1 hb2⟩

end Go.Proofs.Ytgopdnlmiloipad.Bk
