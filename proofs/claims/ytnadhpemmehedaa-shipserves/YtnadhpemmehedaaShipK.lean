/- The walk of the law ShipServes. -/
import Derived.Test.YtnadhpemmehedaaShipJ
namespace Go.Proofs.Ytnadhpemmehedaa
open Go.RowKit Go.Maps Go.WideMaps
set_option linter.unusedSimpArgs false
set_option linter.unusedVariables false

/-- Block B holds the table T (the law's own type). -/
abbrev TabB (w : World) (B : Nat) (T : Tab) : Prop := w.rowIs B 58 25 (fun i => .bool (T (i / 5) (i % 5)))
theorem TabB.get {w : World} {B : Nat} {T : Tab} (h : TabB w B T) {a b : Nat} (ha : a < 5) (hb : b < 5) : w.cell? ⟨B, a * 5 + b, none⟩ = some (.bool (T a b)) := by
  have := World.rowIs.cell h (i := a * 5 + b) (by omega)
  rw [this]
  have e1 : (a * 5 + b) / 5 = a := by omega
  have e2 : (a * 5 + b) % 5 = b := by omega
  rw [e1, e2]
theorem TabB.put {w : World} {B : Nat} {T T' : Tab} (h : TabB w B T) {a b : Nat} {v : Bool} (ha : a < 5) (hb : b < 5) (h1 : T' a b = v) (h2 : ∀ x y, x < 5 → y < 5 → ¬ (x = a ∧ y = b) → T' x y = T x y) :
    TabB (w.setCell ⟨B, a * 5 + b, none⟩ (.bool v)) B T' := by
  refine World.rowIs.congr (World.rowIs.set h (a * 5 + b) (.bool v)) fun i hi => ?_
  by_cases e : i = a * 5 + b
  · rw [if_pos e]
    have e1 : i / 5 = a := by omega
    have e2 : i % 5 = b := by omega
    rw [e1, e2, h1]
  · rw [if_neg e, h2 (i / 5) (i % 5) (by omega) (by omega) (by omega)]
theorem TabB.congr {w : World} {B : Nat} {T T' : Tab} (h : TabB w B T) (e : ∀ x y, x < 5 → y < 5 → T x y = T' x y) : TabB w B T' :=
  World.rowIs.congr h fun i hi => by rw [e _ _ (by omega) (by omega)]
theorem TabB.below {w w' : World} {B : Nat} {T : Tab} (h : TabB w B T) (hb : Below w.heap.size w w') : TabB w' B T :=
  World.rowIs.of_block h (hb.block B h.lt)

theorem tabB_new (w : World) : TabB (w.alloc (.cells #[.bool false, .bool false, .bool false, .bool false, .bool false, .bool false, .bool false, .bool false, .bool false, .bool false, .bool false, .bool false, .bool false, .bool false, .bool false, .bool false, .bool false, .bool false, .bool false, .bool false, .bool false, .bool false, .bool false, .bool false, .bool false] 58)) w.heap.size (fun _ _ => false) := World.rowIs_alloc w _ _ _ (fun i hi => zeros25 i hi)

/-- A table that is filled ahead of (a, b), row by row. -/
def P.fill (T : Tab) (a b : Nat) : Tab := fun x y => decide (x < a ∨ (x = a ∧ y < b)) && T x y

theorem serves_in {legs souls : Int} {cs : List Cat} {bs : List Cab} (h : P.shipE legs souls cs bs = 0) {a b : Nat} (ha : a < cs.length) (hb : b < cs.length) : P.servesE legs souls cs bs a b = 0 ∧ P.servesB legs souls cs bs a b = P.war (P.base cs) cs.length a b := by
  have h1 : P.btw a 0 (cs.length - 1) = true := by simp [P.btw]; omega
  have h2 : P.btw b 0 (cs.length - 1) = true := by simp [P.btw]; omega
  have e : P.servesE legs souls cs bs a b = 0 := by rw [P.servesE, if_pos h, h1, h2]; rfl
  exact ⟨e, by rw [P.servesB, e, P.serves]; simp⟩

set_option maxRecDepth 100000 in
set_option maxHeartbeats 4000000 in
theorem shipServes_ok (legs souls : Int) (cao bao : Option Addr) (cc bc : Nat) (cs : List Cat) (bs : List Cab) (w : World) (hs : ShipAt w cao bao cc bc cs bs) (h0 : P.shipE legs souls cs bs = 0) :
    Calls Try.prog 8 #[.agg #[.int .i64 legs, .int .i64 souls, .slice cao cs.length cc, .slice bao bs.length bc]] w fun e w' => e = .returned (.bool true) ∧ Below w.heap.size w w' := by
  obtain ⟨hn1, hn5, hh, hre, htr, han, hol⟩ := ship_facts h0
  obtain ⟨hlen, hord⟩ := order_all hre htr han
  have HS : Aside (∀ a b : Nat, a < cs.length → b < cs.length → P.servesE legs souls cs bs a b = 0 ∧ P.servesB legs souls cs bs a b = P.war (P.base cs) cs.length a b) := fun a b ha hb => serves_in h0 ha hb
  have HF : Aside (∀ x y, cs.length ≤ x ∨ cs.length ≤ y → P.war (P.base cs) cs.length x y = false) := fun x y h => war_out hh _ x y h
  generalize P.war (P.base cs) cs.length = T at hre htr han hlen hord hol HS HF
  generalize hO : P.order T cs.length cs.length [] = ord at hlen hord hol
  have HX : Aside ((∀ a, a < cs.length → T a a = true) ∧ (∀ a b c, a < cs.length → b < cs.length → c < cs.length → T a b = true → T b c = true → T a c = true) ∧ (∀ a b, a < cs.length → b < cs.length → T a b = true → T b a = true → a = b) ∧ P.Ordered T cs.length ord) := ⟨hre, htr, han, hord⟩
  have H0 : Aside (P.shipE legs souls cs bs = 0) := h0
  have HL : Aside (P.orderL legs souls cs bs = ord ∧ ord.length = cs.length) := ⟨hol, hlen⟩
  clear hre htr han hlen hord hol hO h0 hh
  go_enter Try.func8, Try.ntmps8
  go_wp2_with fail
  refine (order_any legs souls _ _ _ _ cs bs _ (hs.below (by go_grown))).mono ?_
  rintro e w1 ⟨v1, rfl, own1, hb1⟩
  rw [H0.out]
  rw [HL.out.1] at own1
  have hbox1 : ∀ j, j < 4 → w1.cell? ⟨w.heap.size, j, none⟩ = (#[.int .i64 legs, .int .i64 souls, .slice cao cs.length cc, .slice bao bs.length bc] : Array Value)[j]? := by
    intro j hj
    match j, hj with
    | 0, _ => exact cellIn hb1 (by simp)
    | 1, _ => exact cellIn hb1 (by simp)
    | 2, _ => exact cellIn hb1 (by simp)
    | 3, _ => exact cellIn hb1 (by simp)
  have hw1 : Below w.heap.size w w1 := bvia (by go_grown) hb1
  obtain ⟨ao1, cap1, rfl, a1⟩ := OwnI.at own1
  clear own1 hb1
  go_wp2_with fail
  refine (shipBegun_any _).mono ?_
  rintro e w2 ⟨rfl, hb2⟩
  have hw2 := bvia hw1 hb2
  have a2 := SlAt.below RInt.mono a1 hb2
  have c0 : w2.cell? ⟨w.heap.size, 0, none⟩ = some (.int .i64 legs) := cellIn hb2 (hbox1 0 (by omega))
  have c1 : w2.cell? ⟨w.heap.size, 1, none⟩ = some (.int .i64 souls) := cellIn hb2 (hbox1 1 (by omega))
  have c2 : w2.cell? ⟨w.heap.size, 2, none⟩ = some (.slice cao cs.length cc) := cellIn hb2 (hbox1 2 (by omega))
  have c3 : w2.cell? ⟨w.heap.size, 3, none⟩ = some (.slice bao bs.length bc) := cellIn hb2 (hbox1 3 (by omega))
  have hl2 : w.heap.size < w2.heap.size := World.block_lt_of_cell? w2 _ c0
  have hne : ((ord.length : Int) != (cs.length : Int)) = false := by rw [HL.out.2]; simp
  clear hbox1 a1 hw1 hb2
  go_wp2_with fail
  go_loopg [7] cs.length (fun g i wr => ∃ (a : Nat), a ≤ cs.length ∧ g = cs.length - a ∧ i = .int .i64 a ∧ TabB wr w2.heap.size (P.fill T a 0) ∧ Below w2.heap.size w2 wr)
  case atStart => exact ⟨0, Nat.zero_le _, rfl, rfl, TabB.congr (tabB_new w2) (fun x y _ _ => by simp [P.fill]), by go_grown⟩
  case round =>
    obtain ⟨a, ha, rfl, rfl, hT, hB⟩ := hrel
    by_cases hal : a < cs.length
    · go_wp2
      go_loopg [8] cs.length (fun g i wx => ∃ (b : Nat), b ≤ cs.length ∧ g = cs.length - b ∧ i = .int .i64 b ∧ TabB wx w2.heap.size (P.fill T a b) ∧ Below w2.heap.size w2 wx)
      case atStart => exact ⟨0, Nat.zero_le _, rfl, rfl, hT, hB⟩
      case round =>
        clear hT hB
        obtain ⟨b, hb, rfl, rfl, hT, hB⟩ := hrel
        have hTl := hT.lt
        by_cases hbl : b < cs.length
        · have d0 := cellIn hB c0
          have d1 := cellIn hB c1
          have d2 := cellIn hB c2
          have d3 := cellIn hB c3
          obtain ⟨e1, e2⟩ := HS.out a b hal hbl
          have E1 : Aside (P.servesE legs souls cs bs a b = 0) := e1
          have E2 : Aside (P.servesB legs souls cs bs a b = T a b) := e2
          clear e1 e2
          go_wp2_with fail
          refine (serves_any legs souls _ _ _ _ cs bs a b _ ((hs.below hw2).below hB)).mono ?_
          rintro e w3 ⟨rfl, hb3⟩
          rw [E1.out, E2.out]
          have hT3 := hT.below hb3
          have hce := hT3.get (a := a) (b := b) (by omega) (by omega)
          have hfr := World.rowIs.frozen hT3 (a * 5 + b)
          have HN : Aside (TabB (w3.setCell ⟨w2.heap.size, a * 5 + b, none⟩ (.bool (T a b))) w2.heap.size (P.fill T a (b + 1))) :=
            TabB.put hT3 (by omega) (by omega) (by simp [P.fill]) (fun x y hx hy hne => by
              unfold P.fill
              have e : decide (x < a ∨ x = a ∧ y < b + 1) = decide (x < a ∨ x = a ∧ y < b) := by rw [decide_eq_decide]; omega
              rw [e])
          have hB3 := bvia hB hb3
          clear hT hT3
          go_wp2
          go_roundg (cs.length - (b + 1))
          case measure => omega
          case rel => exact ⟨b + 1, by omega, rfl, by go_num, HN.out, hB3.setCell (by show w2.heap.size ≤ w2.heap.size; omega) _⟩
        · obtain rfl : b = cs.length := by omega
          go_wp2
          go_roundg (cs.length - (a + 1))
          case measure => omega
          case rel =>
            refine ⟨a + 1, by omega, rfl, by go_num, hT.congr (fun x y hx hy => ?_), hB⟩
            unfold P.fill
            by_cases e : y < cs.length
            · have e : decide (x < a ∨ x = a ∧ y < cs.length) = decide (x < a + 1 ∨ x = a + 1 ∧ y < 0) := by rw [decide_eq_decide]; omega
              rw [e]
            · rw [HF.out x y (.inr (by omega))]; simp
    · obtain rfl : a = cs.length := by omega
      have hT4 : TabB wr w2.heap.size T := hT.congr (fun x y hx hy => by
        unfold P.fill
        by_cases e : x < cs.length
        · simp [e]
        · rw [HF.out x y (.inl (by omega))]; simp)
      have hw4 : Below w.heap.size w wr := bvia hw2 hB
      have a4 := SlAt.below RInt.mono a2 hB
      clear hT hB c0 c1 c2 c3 HS a2 hw2 hl2 hs hne
      have HT4 : Aside (TabB wr w2.heap.size T) := hT4
      clear hT4
      go_wp2
      go_loopg [11] cs.length (fun g i wx => ∃ (a : Nat), a ≤ cs.length ∧ g = cs.length - a ∧ i = .int .i64 a ∧ wx = wr)
      case atStart => exact ⟨0, Nat.zero_le _, rfl, rfl, rfl⟩
      case round =>
        obtain ⟨a, ha, rfl, rfl, rfl⟩ := hrel
        by_cases hal : a < cs.length
        · go_wp2
          go_loopg [12] cs.length (fun g i wx => ∃ (b : Nat), b ≤ cs.length ∧ g = cs.length - b ∧ i = .int .i64 b ∧ wx = wr)
          case atStart => exact ⟨0, Nat.zero_le _, rfl, rfl, rfl⟩
          case round =>
            obtain ⟨b, hb, rfl, rfl, rfl⟩ := hrel
            by_cases hbl : b < cs.length
            · have gab := HT4.out.get (a := a) (b := b) (by omega) (by omega)
              have gba := HT4.out.get (a := b) (b := a) (by omega) (by omega)
              have i1 : (a : Int) < 5 := by omega
              have i2 : (b : Int) < 5 := by omega
              have HA : Aside (T a b = true → T b a = decide (a = b)) := by
                intro h1
                by_cases e : a = b
                · subst e; simp [h1]
                · cases h2 : T b a with
                  | false => simp [e]
                  | true => exact absurd (HX.out.2.2.1 a b hal hbl h1 h2) e
              have hloop : Aside (∀ c, c < cs.length → T a b = true → T b c = true → T a c = true) := fun c hc => HX.out.2.1 a b c hal hbl hc
              cases tab : T a b
              · rw [tab] at gab
                go_wp2
                go_loopg [13] cs.length (fun g i wx => ∃ (c : Nat), c ≤ cs.length ∧ g = cs.length - c ∧ i = .int .i64 c ∧ wx = wr)
                case atStart => exact ⟨0, Nat.zero_le _, rfl, rfl, rfl⟩
                case round =>
                  obtain ⟨c, hc, rfl, rfl, rfl⟩ := hrel
                  by_cases hcl : c < cs.length
                  · have gbc := HT4.out.get (a := b) (b := c) (by omega) (by omega)
                    have gac := HT4.out.get (a := a) (b := c) (by omega) (by omega)
                    have i3 : (c : Int) < 5 := by omega
                    go_wp2
                    go_roundg (cs.length - (c + 1))
                    case measure => omega
                    case rel => exact ⟨c + 1, by omega, rfl, by go_num, rfl⟩
                  · obtain rfl : c = cs.length := by omega
                    go_wp2
                    go_roundg (cs.length - (b + 1))
                    case measure => omega
                    case rel => exact ⟨b + 1, by omega, rfl, by go_num, rfl⟩
              · rw [tab] at gab
                have tba : T b a = decide (a = b) := HA.out tab
                rw [tba] at gba
                clear tba
                by_cases e : a = b
                · subst e
                  simp only [decide_true] at gba
                  go_wp2
                  go_loopg [13] cs.length (fun g i wx => ∃ (c : Nat), c ≤ cs.length ∧ g = cs.length - c ∧ i = .int .i64 c ∧ wx = wr)
                  case atStart => exact ⟨0, Nat.zero_le _, rfl, rfl, rfl⟩
                  case round =>
                    obtain ⟨c, hc, rfl, rfl, rfl⟩ := hrel
                    by_cases hcl : c < cs.length
                    · have gbc := HT4.out.get (a := a) (b := c) (by omega) (by omega)
                      have gac := HT4.out.get (a := a) (b := c) (by omega) (by omega)
                      have i3 : (c : Int) < 5 := by omega
                      cases tbc : T a c
                      · rw [tbc] at gbc
                        clear gac tbc
                        go_wp2
                        go_roundg (cs.length - (c + 1))
                        case measure => omega
                        case rel => exact ⟨c + 1, by omega, rfl, by go_num, rfl⟩
                      · have tac : T a c = true := hloop.out c hcl (by first | exact tab | exact HX.out.1 a hal) tbc
                        rw [tbc] at gbc
                        rw [tac] at gac
                        clear tbc tac
                        go_wp2
                        go_roundg (cs.length - (c + 1))
                        case measure => omega
                        case rel => exact ⟨c + 1, by omega, rfl, by go_num, rfl⟩
                    · obtain rfl : c = cs.length := by omega
                      go_wp2
                      go_roundg (cs.length - (a + 1))
                      case measure => omega
                      case rel => exact ⟨a + 1, by omega, rfl, by go_num, rfl⟩
                · have e' : ((a : Int) == (b : Int)) = false := by simp; omega
                  rw [decide_eq_false e] at gba
                  go_wp2
                  go_loopg [13] cs.length (fun g i wx => ∃ (c : Nat), c ≤ cs.length ∧ g = cs.length - c ∧ i = .int .i64 c ∧ wx = wr)
                  case atStart => exact ⟨0, Nat.zero_le _, rfl, rfl, rfl⟩
                  case round =>
                    obtain ⟨c, hc, rfl, rfl, rfl⟩ := hrel
                    by_cases hcl : c < cs.length
                    · have gbc := HT4.out.get (a := b) (b := c) (by omega) (by omega)
                      have gac := HT4.out.get (a := a) (b := c) (by omega) (by omega)
                      have i3 : (c : Int) < 5 := by omega
                      cases tbc : T b c
                      · rw [tbc] at gbc
                        clear gac tbc
                        go_wp2
                        go_roundg (cs.length - (c + 1))
                        case measure => omega
                        case rel => exact ⟨c + 1, by omega, rfl, by go_num, rfl⟩
                      · have tac : T a c = true := hloop.out c hcl (by first | exact tab | exact HX.out.1 a hal) tbc
                        rw [tbc] at gbc
                        rw [tac] at gac
                        clear tbc tac
                        go_wp2
                        go_roundg (cs.length - (c + 1))
                        case measure => omega
                        case rel => exact ⟨c + 1, by omega, rfl, by go_num, rfl⟩
                    · obtain rfl : c = cs.length := by omega
                      go_wp2
                      go_roundg (cs.length - (b + 1))
                      case measure => omega
                      case rel => exact ⟨b + 1, by omega, rfl, by go_num, rfl⟩
            · obtain rfl : b = cs.length := by omega
              go_wp2
              go_roundg (cs.length - (a + 1))
              case measure => omega
              case rel => exact ⟨a + 1, by omega, rfl, by go_num, rfl⟩
        · obtain rfl : a = cs.length := by omega
          obtain ⟨w4, hw4e⟩ : ∃ u, u = wr := ⟨_, rfl⟩
          subst hw4e
          go_wp2
          go_loopg [14] cs.length (fun g i wx => ∃ (i' : Nat), i' ≤ cs.length ∧ g = cs.length - i' ∧ i = .int .i64 i' ∧ Below w4.heap.size w4 wx)
          case atStart => exact ⟨0, Nat.zero_le _, rfl, rfl, Below.refl _ _⟩
          case round =>
            obtain ⟨i, hi, rfl, rfl, hB⟩ := hrel
            by_cases hil : i < cs.length
            · go_wp2
              go_loopg [15] cs.length (fun g j wx => ∃ (k : Nat), i + 1 ≤ k ∧ k ≤ cs.length ∧ g = cs.length - k + (i + 1) ∧ j = .int .i64 k ∧ Below w4.heap.size w4 wx)
              case atStart => exact ⟨i + 1, Nat.le_refl _, by omega, by omega, by go_num, hB⟩
              case round =>
                clear hB
                obtain ⟨k, hik, hk, rfl, rfl, hB⟩ := hrel
                by_cases hkl : k < cs.length
                · have hlo := HL.out.2
                  obtain ⟨b1, o1, x, rfl, hbw, hd, hcx⟩ := IntsAt.get a4 hB i (by omega)
                  obtain ⟨b2, o2, y, e2, hbw2, hd2, hcy⟩ := IntsAt.get a4 hB k (by omega)
                  simp only [Option.some.injEq, Addr.mk.injEq] at e2
                  obtain ⟨rfl, rfl, _⟩ := e2
                  have hio : i < ord.length := by omega
                  have hko : k < ord.length := by omega
                  have ex : ord[i] = x := by have := List.drop_eq_getElem_cons hio; rw [hd] at this; simp only [List.cons.injEq] at this; exact this.1.symm
                  have ey : ord[k] = y := by have := List.drop_eq_getElem_cons hko; rw [hd2] at this; simp only [List.cons.injEq] at this; exact this.1.symm
                  have hO := HX.out.2.2.2
                  have hbx := hO.bound x (ex ▸ List.getElem_mem hio)
                  have hby := hO.bound y (ey ▸ List.getElem_mem hko)
                  have hpw := List.pairwise_iff_getElem.1 hO.apart i k hio hko (by omega)
                  rw [ex, ey] at hpw
                  obtain ⟨X, rfl⟩ : ∃ X : Nat, x = X := ⟨x.toNat, by omega⟩
                  obtain ⟨Y, rfl⟩ : ∃ Y : Nat, y = Y := ⟨y.toNat, by omega⟩
                  simp only [Int.toNat_natCast] at hpw
                  have hce := (TabB.below HT4.out hB).get (a := Y) (b := X) (by omega) (by omega)
                  rw [hpw] at hce
                  have j1 : (X : Int) < cs.length := hbx.2
                  have j2 : (Y : Int) < cs.length := hby.2
                  have j3 : (0 : Int) ≤ X := hbx.1
                  have j4 : (0 : Int) ≤ Y := hby.1
                  have j5 : (X : Int) < 5 := by omega
                  have j6 : (Y : Int) < 5 := by omega
                  have j7 : (i : Int) < ord.length := by omega
                  have j8 : (k : Int) < ord.length := by omega
                  have j9 : (0 : Int) ≤ i := by omega
                  have j10 : (0 : Int) ≤ k := by omega
                  have f1 : decide ((X : Int) < 0) = false := decide_eq_false (by omega)
                  have f2 : decide ((Y : Int) < 0) = false := decide_eq_false (by omega)
                  have f3 : decide ((cs.length : Int) ≤ X) = false := decide_eq_false (by omega)
                  have f4 : decide ((cs.length : Int) ≤ Y) = false := decide_eq_false (by omega)
                  have f5 : decide ((X : Int) ≥ (cs.length : Int)) = false := decide_eq_false (by omega)
                  have f6 : decide ((Y : Int) ≥ (cs.length : Int)) = false := decide_eq_false (by omega)
                  have f7 : decide (cs.length ≤ X) = false := decide_eq_false (by omega)
                  have f8 : decide (cs.length ≤ Y) = false := decide_eq_false (by omega)
                  clear hd hd2 ex ey hO hbx hby hpw hlo
                  go_wp2
                  go_quiet (fail)
                  go_wp2
                  go_roundg (cs.length - (k + 1) + (i + 1))
                  case measure => omega
                  case rel => exact ⟨k + 1, by omega, by omega, rfl, by go_num, below_drewN hB _⟩
                · obtain rfl : k = cs.length := by omega
                  go_wp2
                  go_roundg (cs.length - (i + 1))
                  case measure => omega
                  case rel => exact ⟨i + 1, by omega, rfl, by go_num, hB⟩
            · obtain rfl : i = cs.length := by omega
              go_wp2
              go_ret
              exact ⟨rfl, bvia hw4 hB⟩

set_option maxRecDepth 100000 in
set_option maxHeartbeats 1000000 in
theorem shipServes_walk (legs souls : Int) (cao bao : Option Addr) (cc bc : Nat) (cs : List Cat) (bs : List Cab) (w : World) (hs : ShipAt w cao bao cc bc cs bs) :
    Calls Try.prog 8 #[.agg #[.int .i64 legs, .int .i64 souls, .slice cao cs.length cc, .slice bao bs.length bc]] w fun e w' => e = .returned (.bool true) ∧ Below w.heap.size w w' := by
  cases h1 : (P.shipE legs souls cs bs != 0)
  · exact shipServes_ok legs souls cao bao cc bc cs bs w hs (by simpa using h1)
  · have HL : Aside (P.orderL legs souls cs bs = []) := by show _ = _; rw [P.orderL, if_neg (by simpa using h1)]
    go_enter Try.func8, Try.ntmps8
    go_wp2_with fail
    refine (order_any legs souls _ _ _ _ cs bs _ (hs.below (by go_grown))).mono ?_
    rintro e w1 ⟨v1, rfl, own1, hb1⟩
    rw [HL.out] at own1
    obtain ⟨ao1, cap1, rfl, a1⟩ := OwnI.at own1
    go_wp2_with (go_at_call 23; refine (shipBegun_any _).mono ?_; rintro e w2 ⟨rfl, hb2⟩)
    go_ret
    exact ⟨by simp, bvia (bvia (by go_grown) hb1) hb2⟩

end Go.Proofs.Ytnadhpemmehedaa
