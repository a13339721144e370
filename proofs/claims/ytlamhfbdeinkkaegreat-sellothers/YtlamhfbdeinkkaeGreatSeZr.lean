/- The walk of SellOthers. -/
import Derived.Test.YtlamhfbdeinkkaeGreatSeYr
import Derived.Test.YtlamhfbdeinkkaeGreatSeMr
namespace Go.Proofs.YtlamhfbdeinkkaeGreat.St
open Go.RowKit Bk
set_option linter.unusedSimpArgs false
set_option linter.unusedVariables false
set_option maxRecDepth 10000

theorem wpList_stP {ops : Array Oper} {rest : List Oper} {act : Act} {Q : Exit → Act → World → Prop} {w : World} {ty tt : TypeId} {x y : Operand} {pos : String} {af : Array Edge}
    (g : Nat) (old cells : Array Value) (hty : (Tryz.prog.info? ty).map (·.size) = some cells.size) (hx : act.eval x = .pointer (some ⟨g, 0, none⟩)) (hy : act.eval y = .agg cells) (hb : RowIs w g old) (hsz : old.size = cells.size) (h1 : cells.all (·.oneCell') = true)
    (h : ∀ w', RowIs w' g cells → w.grownBy w' (some g) → wpList Tryz.prog ops Q rest (act.put none undef) w') : wpList Tryz.prog ops Q ({ dst := none, op := .store ty x y, type := tt, pos := pos, after := af, guard := none } :: rest) act w :=
  wpList_stC rfl ty x y rfl g old cells hty hx hy hb hsz h1 h
theorem sameBooking_none (b : Bkg) (fo : Option Addr) (fc : Nat) (w : World) (hb : b.fol = []) (h' : Fo.EntsAt w fo fc b.fol) :
    Calls Tryz.prog 16 #[.agg #[.int .i64 b.id, .int .i64 b.kind, .int .i64 b.state, .int .i64 b.guests, .bool b.level, .int .i64 b.cabin, .int .i64 b.cat, .int .i64 b.frm, .int .i64 b.to, .int .i64 b.til, .slice none 0 0], V.bk b fo fc] w fun e w' => e = .returned (.bool true) ∧ Below w.heap.size w w' := by
  have h := sameBooking_eq b none fo 0 fc w (by rw [hb]; exact SlAt.nilOf _) h'
  have e : V.bk b none 0 = .agg #[.int .i64 b.id, .int .i64 b.kind, .int .i64 b.state, .int .i64 b.guests, .bool b.level, .int .i64 b.cabin, .int .i64 b.cat, .int .i64 b.frm, .int .i64 b.to, .int .i64 b.til, .slice none 0 0] := by simp [V.bk, hb]
  rwa [e] at h
theorem sellS_zero {k : Int} {x : Sail} {b : Bkg} {y : Sail} (h : P.SellS k x b 0 y) : P.SailE x 0 ∧ P.Sells k x b 0 y := by
  rcases h with ⟨q, h1, h2, h3, _⟩ | h
  · exact absurd h3.symm h2
  · exact h
/-- What is known of what is sold. -/
structure Sold (k : Int) (x : Sail) (b : Bkg) (y : Sail) (n : Nat) : Prop where
  is : y = P.withB x (P.priced k x b)
  right : P.SailE y 0
  at_ : P.bat b.id 0 y.bks = (n : Int)
  lt : n < y.bks.length
  get : y.bks[n]? = some (P.priced k x b)
  len : y.bks.length = x.bks.length + 1
  l16 : x.bks.length < 16
  mem : ∀ z ∈ x.bks, z.id ≠ b.id → z ∈ y.bks
  rise : y.bks.Pairwise (fun a b => a.id < b.id)
  fol : b.fol = []
theorem sold_of {k : Int} {x : Sail} {b : Bkg} {y : Sail} (hk : k = 1 ∨ k = 2) (h : P.SellS k x b 0 y) : ∃ n, Sold k x b y n := by
  obtain ⟨hE, hs⟩ := sellS_zero h
  obtain ⟨h1, rfl, h3⟩ := sells_right hk hE hs
  obtain ⟨s1, s2, s3, s4, s5, s6, s7, s8, s9, s10⟩ := sellE_zero h1
  obtain ⟨hp, _, _, _, h16, _⟩ := sail_ok hE
  obtain ⟨A, B, eA, eI, hI⟩ := ins_split (b := P.priced k x b) (bksI_rise (pre_zero hp).2.1).2 s9
  have hr : (P.withB x (P.priced k x b)).bks.Pairwise (fun a b => a.id < b.id) := by
    show (P.insB _ _).Pairwise _
    rw [eI]
    exact hI
  have hm : P.priced k x b ∈ (P.withB x (P.priced k x b)).bks := by
    show _ ∈ P.insB _ _
    rw [eI]
    simp
  obtain ⟨n, n1, n2, n3⟩ := bat_mem hr hm
  exact ⟨n, rfl, h3, n1, n2, n3, (sell_pre hk hE h1).2.2, s10, fun z hz _ => by
    show z ∈ P.insB _ _
    rw [eI]
    rw [eA] at hz
    rcases List.mem_append.1 hz with h | h
    · exact List.mem_append.2 (.inl h)
    · exact List.mem_append.2 (.inr (List.mem_cons.2 (.inr h))), hr, s3⟩

set_option maxHeartbeats 16000000 in
theorem sellOthers_walk (x : Sail) (a : SailA) (b : Bkg) (fo : Option Addr) (fc : Nat) (w : World) (hs : SailAt w x a) (hf : Fo.EntsAt w fo fc b.fol) :
    Calls Tryz.prog 3 #[V.sail x a, V.bk b fo fc] w fun e w' => e = .returned (.bool true) ∧ Below w.heap.size w w' := by
  have hle := hs.bks.le
  have hmx := hs.bks.max
  unfold maxLen at hmx
  have HS : Aside (SailAt w x a) := hs
  have HF : Aside (Fo.EntsAt w fo fc b.fol) := hf
  have hb0 : Below w.heap.size w (W.bk (W.sail w x a) b fo fc) := bvia (sail_below w x a) (bk_below _ b fo fc)
  have HX0 : Aside (SRow (W.bk (W.sail w x a) b fo fc) w.heap.size x a) := (RowIs.new w _ _ : SRow (W.sail w x a) w.heap.size x a).below (bk_below _ b fo fc)
  have HB0 : Aside (RowIs (W.bk (W.sail w x a) b fo fc) (w.heap.size + 1) (C.bk b fo fc)) := by
    have := RowIs.new (W.sail w x a) (C.bk b fo fc) 37
    rwa [World.size_alloc] at this
  clear hs hf
  go_enter Tryz.func3, Tryz.ntmps3
  go_wp2_with fail
  refine (sellBegun_any _).mono ?_
  rintro e w1 ⟨rfl, hb1⟩
  have hB1 := bvia hb0 hb1
  have HX1 : Aside (SRow w1 w.heap.size x a) := HX0.out.below hb1
  have HB1 : Aside (RowIs w1 (w.heap.size + 1) (C.bk b fo fc)) := HB0.out.below hb1
  clear HX0 HB0 hb0 hb1
  go_wp2_with fail
  refine (stockBegun_any _).mono ?_
  rintro e w2 ⟨rfl, hb2⟩
  have hB2 := bvia hB1 hb2
  have HX2 : Aside (SRow w2 w.heap.size x a) := HX1.out.below hb2
  have HB2 : Aside (RowIs w2 (w.heap.size + 1) (C.bk b fo fc)) := HB1.out.below hb2
  clear HX1 HB1 hB1 hb2
  go_wp2
  go_loopg [5] 2 (fun q iv wr => ∃ i : Nat, i ≤ 2 ∧ q = 2 - i ∧ iv = .int .i64 i ∧ Aside (SRow wr w.heap.size x a) ∧ Aside (RowIs wr (w.heap.size + 1) (C.bk b fo fc)) ∧ Aside (Below w.heap.size w wr))
  case atStart => exact ⟨0, Nat.zero_le _, rfl, rfl, HX2, HB2, hB2⟩
  case round =>
    clear HX2 HB2 hB2
    obtain ⟨i, hi, rfl, rfl, HX, HB, HW⟩ := hrel
    by_cases hlt : i < 2
    · have hx1 : w.heap.size < wr.heap.size := HX.out.lt
      have hx2 : w.heap.size + 1 < wr.heap.size := HB.out.lt
      have hii : (i : Int) < 2 := by omega
      obtain ⟨d0, d1, d2, d3, d4, d5, d6, d7, d8, d9, d10, d11, d12⟩ := SRow.box HX.out
      obtain ⟨z0, z1, z2, z3, z4, z5, z6, z7, z8, z9, z10⟩ := HB.out.bbox
      go_wp2_with fail
      refine (sellNamed_any x a b fo fc _ (HS.out.below HW.out) (SlAt.below Fo.REnt.mono HF.out HW.out)).mono ?_
      rintro e w3 ⟨r1, y1, a1, rfl, hS1, hU1, hb3⟩
      have hs3 := sail_below w3 y1 a1
      have hb4 := bvia hb3 hs3
      have HX4 : Aside (SRow (W.sail w3 y1 a1) w.heap.size x a) := HX.out.below hb4
      have HB4 : Aside (RowIs (W.sail w3 y1 a1) (w.heap.size + 1) (C.bk b fo fc)) := HB.out.below hb4
      have HR4 : Aside (SRow (W.sail w3 y1 a1) w3.heap.size y1 a1) := RowIs.new w3 _ _
      have HA4 : Aside (SailAt (W.sail w3 y1 a1) y1 a1) := hU1.at.below hs3
      have HW4 : Aside (Below w.heap.size w (W.sail w3 y1 a1)) := bvia HW.out hb4
      have HS1 : Aside (P.SellS 1 x b r1 y1) := hS1
      have hx3 : w.heap.size + 1 < w3.heap.size := Nat.lt_of_lt_of_le hx2 hb3.size
      clear d0 d1 d2 d3 d4 d5 d6 d7 d8 d9 d10 d11 d12 z0 z1 z2 z3 z4 z5 z6 z7 z8 z9 z10 hS1 hU1 hb3 hs3 hb4 HX HB HW hx1 hx2
      rcases (by omega : i = 0 ∨ i = 1) with rfl | rfl
      · cases hz : (r1 != 0)
        rotate_left
        · have hyz := SellS.err HS1.out (by simpa using hz)
          subst hyz
          have hl0 : P.zeroS.bks.length = 0 := rfl
          have d11 : (W.sail w3 P.zeroS a1).cell? ⟨w3.heap.size, 11, none⟩ = some (.slice a1.ao 0 a1.cap) := HR4.out.cell 11
          go_wp2
          go_roundg (2 - 1)
          case measure => omega
          case rel => exact ⟨1, by omega, rfl, by go_num, HX4, HB4, HW4⟩
        obtain rfl : r1 = 0 := by simpa using hz
        obtain ⟨n, hsold⟩ := sold_of (by simp) HS1.out
        have HD : Aside (Sold 1 x b y1 n) := hsold
        have HY : Aside (y1 = P.withB x (P.priced 1 x b)) := hsold.is
        clear hz hsold HS1
        obtain ⟨d0, d1, d2, d3, d4, d5, d6, d7, d8, d9, d10, d11, d12⟩ := SRow.box HR4.out
        have z0 := HB4.out.cell 0
        go_wp2_with fail
        refine (bookingAt_any y1 a1 b.id _ HA4.out).mono ?_
        rintro e w6 ⟨rfl, hb6⟩
        rw [HD.out.at_]
        have HX6 : Aside (SRow w6 w.heap.size x a) := HX4.out.below hb6
        have HB6 : Aside (RowIs w6 (w.heap.size + 1) (C.bk b fo fc)) := HB4.out.below hb6
        have HR6 : Aside (SRow w6 w3.heap.size y1 a1) := HR4.out.below hb6
        have HA6 : Aside (SailAt w6 y1 a1) := HA4.out.below hb6
        have HW6 : Aside (Below w.heap.size w w6) := bvia HW4.out hb6
        clear d0 d1 d2 d3 d4 d5 d6 d7 d8 d9 d10 d11 d12 z0 hb6 HX4 HB4 HR4 HA4 HW4
        obtain ⟨d0, d1, d2, d3, d4, d5, d6, d7, d8, d9, d10, d11, d12⟩ := SRow.box HR6.out
        go_wp2_with fail
        refine (stockCheck_any y1 a1 _ HA6.out).mono ?_
        rintro e w7 ⟨q, rfl, hq, hb7⟩
        obtain rfl := SailE.one HD.out.right hq
        have HX7 : Aside (SRow w7 w.heap.size x a) := HX6.out.below hb7
        have HB7 : Aside (RowIs w7 (w.heap.size + 1) (C.bk b fo fc)) := HB6.out.below hb7
        have HR7 : Aside (SRow w7 w3.heap.size y1 a1) := HR6.out.below hb7
        have HA7 : Aside (SailAt w7 y1 a1) := HA6.out.below hb7
        have HW7 : Aside (Below w.heap.size w w7) := bvia HW6.out hb7
        clear d0 d1 d2 d3 d4 d5 d6 d7 d8 d9 d10 d11 d12 hq hb7 HX6 HB6 HR6 HA6 HW6
        obtain ⟨d0, d1, d2, d3, d4, d5, d6, d7, d8, d9, d10, d11, d12⟩ := SRow.box HX7.out
        obtain ⟨e0, e1, e2, e3, e4, e5, e6, e7, e8, e9, e10, e11, e12⟩ := SRow.box HR7.out
        have z0 : w7.cell? ⟨w.heap.size + 1, 0, none⟩ = some (.int .i64 b.id) := HB7.out.cell 0
        have hx16 : x.bks.length < 16 := HD.out.l16
        have hlb : (((y1.bks.length : Nat) : Int) != (x.bks.length : Int) + 1) = false := by have := HD.out.len; simp; omega
        have hk0 : decide ((n : Int) < 0) = false := by simp
        go_wp2_with fail
        refine (stays_any x y1 a a1 b.id _ (HS.out.below HW7.out) HA7.out HY.out HD.out.mem HD.out.rise (by have := HD.out.l16; omega) (by have := HD.out.l16; have := HD.out.len; omega)).mono ?_
        rintro e w8 ⟨rfl, hb8⟩
        have HX8 : Aside (SRow w8 w.heap.size x a) := HX7.out.below hb8
        have HB8 : Aside (RowIs w8 (w.heap.size + 1) (C.bk b fo fc)) := HB7.out.below hb8
        have HA8 : Aside (SailAt w8 y1 a1) := HA7.out.below hb8
        have HW8 : Aside (Below w.heap.size w w8) := bvia HW7.out hb8
        have HR8 : Aside (SRow w8 w3.heap.size y1 a1) := HR7.out.below hb8
        clear d0 d1 d2 d3 d4 d5 d6 d7 d8 d9 d10 d11 d12 e0 e1 e2 e3 e4 e5 e6 e7 e8 e9 e10 e11 e12 z0 hlb hk0 hx16 hb8 HX7 HB7 HR7 HA7 HW7
        have hyle := HA8.out.bks.le
        have hymx := HA8.out.bks.max
        unfold maxLen at hymx
        obtain ⟨b2, o2, yy, fo2, fc2, hao2, hbw2, hd2, ⟨p0, p1, p2, p3, p4, p5, p6, p7, p8, p9, p10⟩, hfy2⟩ := BksAt.get HA8.out.bks (Below.refl _ _) n HD.out.lt
        have hyy : yy = P.priced 1 x b := by
          have h0 : y1.bks[n]? = some yy := by
            have := congrArg (fun l => l[0]?) hd2
            simpa using this
          rw [HD.out.get] at h0
          exact (Option.some.inj h0).symm
        subst hyy
        have e11 : w8.cell? ⟨w3.heap.size, 11, none⟩ = some (.slice a1.ao y1.bks.length a1.cap) := HR8.out.cell 11
        rw [hao2] at e11
        have hnl : (n : Int) < y1.bks.length := by have := HD.out.lt; omega
        have y10' : w8.cell? ⟨b2, o2 + n * 11 + 10, none⟩ = some (.slice fo2 1 fc2) := p10
        have hw8a : w.heap.size + 1 < w8.heap.size := HB8.out.lt
        have hw8b : w3.heap.size < w8.heap.size := HR8.out.lt
        obtain ⟨f0, f1, f2, f3, f4, f5, f6, f7, f8, f9, f10⟩ := HB8.out.bbox
        clear p10 hao2 hd2 hfy2
        go_wp2_with fail
        refine (sameBooking_none b fo fc _ HD.out.fol (SlAt.below Fo.REnt.mono HF.out (bvia HW8.out (by go_grown)))).mono ?_
        rintro e w9 ⟨rfl, hb9⟩
        have hb89 := bvia (show Below w8.heap.size w8 _ from (by go_grown)) hb9
        have e11b := cellIn hb89 e11
        have p10b := cellIn hb89 y10'
        have HX9 : Aside (SRow w9 w.heap.size x a) := HX8.out.below hb89
        have HB9 : Aside (RowIs w9 (w.heap.size + 1) (C.bk b fo fc)) := HB8.out.below hb89
        have HW9 : Aside (Below w.heap.size w w9) := bvia HW8.out hb89
        clear e11 y10' f0 f1 f2 f3 f4 f5 f6 f7 f8 f9 f10 p0 p1 p2 p3 p4 p5 p6 p7 p8 p9 hb89 hb9 HX8 HB8 HR8 HA8 HW8
        go_wp2
        go_roundg (2 - 1)
        case measure => omega
        case rel => exact ⟨1, by omega, rfl, by go_num, HX9, HB9, HW9⟩
      · obtain ⟨d0, d1, d2, d3, d4, d5, d6, d7, d8, d9, d10, d11, d12⟩ := SRow.box HX4.out
        obtain ⟨z0, z1, z2, z3, z4, z5, z6, z7, z8, z9, z10⟩ := HB4.out.bbox
        go_wp2_with fail
        refine (sellPromise_any x a b fo fc _ (HS.out.below HW4.out) (SlAt.below Fo.REnt.mono HF.out HW4.out)).mono ?_
        rintro e w4 ⟨r2, y2, a2, rfl, hS2, hU2, hb5⟩
        have HX5p : Aside (SRow w4 w.heap.size x a) := HX4.out.below hb5
        have HB5p : Aside (RowIs w4 (w.heap.size + 1) (C.bk b fo fc)) := HB4.out.below hb5
        have HR5p : Aside (SRow w4 w3.heap.size y1 a1) := HR4.out.below hb5
        have HU5 : Aside (SailUp (W.sail w3 y1 a1).heap.size w4 y2 a2) := hU2
        have HW5p : Aside (Below w.heap.size w w4) := bvia HW4.out hb5
        have HS2 : Aside (P.SellS 2 x b r2 y2) := hS2
        clear d0 d1 d2 d3 d4 d5 d6 d7 d8 d9 d10 d11 d12 z0 z1 z2 z3 z4 z5 z6 z7 z8 z9 z10 hS2 hU2 hb5 HX4 HB4 HR4 HA4 HW4 HS1
        cases hz : (r2 != 0)
        rotate_left
        · have hyz := SellS.err HS2.out (by simpa using hz)
          subst hyz
          have hl0 : P.zeroS.bks.length = 0 := rfl
          go_wp2_with ((with_reducible refine wpList_stP (w3.heap.size) (C.sail y1 a1) (C.sail P.zeroS a2) ?_ ?_ ?_ HR5p.out ?_ ?_ ?_); exact Tryz.sizeSail; rfl; rfl; rfl; exact sail_one _ _; intro w5 hr5 hg5; have HX5 : Aside (SRow w5 w.heap.size x a) := HX5p.out.gr hg5 (by simp; omega); have HB5 : Aside (RowIs w5 (w.heap.size + 1) (C.bk b fo fc)) := HB5p.out.gr hg5 (by simp; omega); have HR5 : Aside (SRow w5 w3.heap.size P.zeroS a2) := hr5; have HA5 : Aside (SailAt w5 P.zeroS a2) := (HU5.out.up (Up.gr hg5 (by simp))).at; have HW5 : Aside (Below w.heap.size w w5) := below_gr HW5p.out HW5p.out.size hg5 (by omega); have d11 : w5.cell? ⟨w3.heap.size, 11, none⟩ = some (.slice a2.ao 0 a2.cap) := HR5.out.cell 11)
          go_roundg (2 - 2)
          case measure => omega
          case rel => exact ⟨2, by omega, rfl, by go_num, HX5, HB5, HW5⟩
        obtain rfl : r2 = 0 := by simpa using hz
        obtain ⟨n, hsold⟩ := sold_of (by simp) HS2.out
        have HD : Aside (Sold 2 x b y2 n) := hsold
        have HY : Aside (y2 = P.withB x (P.priced 2 x b)) := hsold.is
        clear hz hsold HS2
        go_wp2_with ((with_reducible refine wpList_stP (w3.heap.size) (C.sail y1 a1) (C.sail y2 a2) ?_ ?_ ?_ HR5p.out ?_ ?_ ?_); exact Tryz.sizeSail; rfl; rfl; rfl; exact sail_one _ _; intro w5 hr5 hg5; have HX5 : Aside (SRow w5 w.heap.size x a) := HX5p.out.gr hg5 (by simp; omega); have HB5 : Aside (RowIs w5 (w.heap.size + 1) (C.bk b fo fc)) := HB5p.out.gr hg5 (by simp; omega); have HR5 : Aside (SRow w5 w3.heap.size y2 a2) := hr5; have HA5 : Aside (SailAt w5 y2 a2) := (HU5.out.up (Up.gr hg5 (by simp))).at; have HW5 : Aside (Below w.heap.size w w5) := below_gr HW5p.out HW5p.out.size hg5 (by omega); obtain ⟨d0, d1, d2, d3, d4, d5, d6, d7, d8, d9, d10, d11, d12⟩ := SRow.box HR5.out; have z0 := HB5.out.cell 0)
        refine (bookingAt_any y2 a2 b.id _ HA5.out).mono ?_
        rintro e w6 ⟨rfl, hb6⟩
        rw [HD.out.at_]
        have HX6 : Aside (SRow w6 w.heap.size x a) := HX5.out.below hb6
        have HB6 : Aside (RowIs w6 (w.heap.size + 1) (C.bk b fo fc)) := HB5.out.below hb6
        have HR6 : Aside (SRow w6 w3.heap.size y2 a2) := HR5.out.below hb6
        have HA6 : Aside (SailAt w6 y2 a2) := HA5.out.below hb6
        have HW6 : Aside (Below w.heap.size w w6) := bvia HW5.out hb6
        clear d0 d1 d2 d3 d4 d5 d6 d7 d8 d9 d10 d11 d12 z0 hb6 HX5 HB5 HR5 HA5 HW5
        obtain ⟨d0, d1, d2, d3, d4, d5, d6, d7, d8, d9, d10, d11, d12⟩ := SRow.box HR6.out
        go_wp2_with fail
        refine (stockCheck_any y2 a2 _ HA6.out).mono ?_
        rintro e w7 ⟨q, rfl, hq, hb7⟩
        obtain rfl := SailE.one HD.out.right hq
        have HX7 : Aside (SRow w7 w.heap.size x a) := HX6.out.below hb7
        have HB7 : Aside (RowIs w7 (w.heap.size + 1) (C.bk b fo fc)) := HB6.out.below hb7
        have HR7 : Aside (SRow w7 w3.heap.size y2 a2) := HR6.out.below hb7
        have HA7 : Aside (SailAt w7 y2 a2) := HA6.out.below hb7
        have HW7 : Aside (Below w.heap.size w w7) := bvia HW6.out hb7
        clear d0 d1 d2 d3 d4 d5 d6 d7 d8 d9 d10 d11 d12 hq hb7 HX6 HB6 HR6 HA6 HW6
        obtain ⟨d0, d1, d2, d3, d4, d5, d6, d7, d8, d9, d10, d11, d12⟩ := SRow.box HX7.out
        obtain ⟨e0, e1, e2, e3, e4, e5, e6, e7, e8, e9, e10, e11, e12⟩ := SRow.box HR7.out
        have z0 : w7.cell? ⟨w.heap.size + 1, 0, none⟩ = some (.int .i64 b.id) := HB7.out.cell 0
        have hx16 : x.bks.length < 16 := HD.out.l16
        have hlb : (((y2.bks.length : Nat) : Int) != (x.bks.length : Int) + 1) = false := by have := HD.out.len; simp; omega
        have hk0 : decide ((n : Int) < 0) = false := by simp
        go_wp2_with fail
        refine (stays_any x y2 a a2 b.id _ (HS.out.below HW7.out) HA7.out HY.out HD.out.mem HD.out.rise (by have := HD.out.l16; omega) (by have := HD.out.l16; have := HD.out.len; omega)).mono ?_
        rintro e w8 ⟨rfl, hb8⟩
        have HX8 : Aside (SRow w8 w.heap.size x a) := HX7.out.below hb8
        have HB8 : Aside (RowIs w8 (w.heap.size + 1) (C.bk b fo fc)) := HB7.out.below hb8
        have HA8 : Aside (SailAt w8 y2 a2) := HA7.out.below hb8
        have HW8 : Aside (Below w.heap.size w w8) := bvia HW7.out hb8
        have HR8 : Aside (SRow w8 w3.heap.size y2 a2) := HR7.out.below hb8
        clear d0 d1 d2 d3 d4 d5 d6 d7 d8 d9 d10 d11 d12 e0 e1 e2 e3 e4 e5 e6 e7 e8 e9 e10 e11 e12 z0 hlb hk0 hx16 hb8 HX7 HB7 HR7 HA7 HW7
        have hyle := HA8.out.bks.le
        have hymx := HA8.out.bks.max
        unfold maxLen at hymx
        obtain ⟨b2, o2, yy, fo2, fc2, hao2, hbw2, hd2, ⟨p0, p1, p2, p3, p4, p5, p6, p7, p8, p9, p10⟩, hfy2⟩ := BksAt.get HA8.out.bks (Below.refl _ _) n HD.out.lt
        have hyy : yy = P.priced 2 x b := by
          have h0 : y2.bks[n]? = some yy := by
            have := congrArg (fun l => l[0]?) hd2
            simpa using this
          rw [HD.out.get] at h0
          exact (Option.some.inj h0).symm
        subst hyy
        have e11 : w8.cell? ⟨w3.heap.size, 11, none⟩ = some (.slice a2.ao y2.bks.length a2.cap) := HR8.out.cell 11
        rw [hao2] at e11
        have hnl : (n : Int) < y2.bks.length := by have := HD.out.lt; omega
        have y10' : w8.cell? ⟨b2, o2 + n * 11 + 10, none⟩ = some (.slice fo2 1 fc2) := p10
        have hw8a : w.heap.size + 1 < w8.heap.size := HB8.out.lt
        have hw8b : w3.heap.size < w8.heap.size := HR8.out.lt
        obtain ⟨f0, f1, f2, f3, f4, f5, f6, f7, f8, f9, f10⟩ := HB8.out.bbox
        clear p10 hao2 hd2 hfy2
        go_wp2_with fail
        refine (sameBooking_none b fo fc _ HD.out.fol (SlAt.below Fo.REnt.mono HF.out (bvia HW8.out (by go_grown)))).mono ?_
        rintro e w9 ⟨rfl, hb9⟩
        have hb89 := bvia (show Below w8.heap.size w8 _ from (by go_grown)) hb9
        have e11b := cellIn hb89 e11
        have p10b := cellIn hb89 y10'
        have HX9 : Aside (SRow w9 w.heap.size x a) := HX8.out.below hb89
        have HB9 : Aside (RowIs w9 (w.heap.size + 1) (C.bk b fo fc)) := HB8.out.below hb89
        have HW9 : Aside (Below w.heap.size w w9) := bvia HW8.out hb89
        clear e11 y10' f0 f1 f2 f3 f4 f5 f6 f7 f8 f9 f10 p0 p1 p2 p3 p4 p5 p6 p7 p8 p9 hb89 hb9 HX8 HB8 HR8 HA8 HW8
        go_wp2
        go_roundg (2 - 2)
        case measure => omega
        case rel => exact ⟨2, by omega, rfl, by go_num, HX9, HB9, HW9⟩
    · have : i = 2 := by omega
      subst this
      go_wp2
      go_ret
      exact ⟨rfl, HW.out⟩

end Go.Proofs.YtlamhfbdeinkkaeGreat.St
