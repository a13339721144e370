/- The reference: are two sailings the same? Where they are. -/
import Derived.Test.YtlamhfbdeinkkaeGreatStSt
import Derived.Test.YtlamhfbdeinkkaeGreatOpenFt
namespace Go.Proofs.YtlamhfbdeinkkaeGreat.St
open Go.RowKit Bk
set_option linter.unusedSimpArgs false
set_option linter.unusedVariables false
set_option maxRecDepth 10000

theorem two_heads {α : Type} {l : List α} {k : Nat} {x y : α} (h : l.drop k = x :: l.drop (k + 1)) (h' : l.drop k = y :: l.drop (k + 1)) : y = x := by
  rw [h] at h'
  exact (List.cons.inj h').1.symm

theorem sameInts_eq (ao bo : Option Addr) (ca cb : Nat) (a : List Int) (w : World) (ha : IntsAt w ao ca a) (hb : IntsAt w bo cb a) :
    Calls Tryz.prog 39 #[.slice ao a.length ca, .slice bo a.length cb] w fun e w' => e = .returned (.bool true) ∧ Below w.heap.size w w' := by
  have := Sh.sameInts_any ao bo ca cb a a w ha hb
  rwa [decide_eq_true rfl] at this
theorem sameFolio_eq (ao bo : Option Addr) (ca cb : Nat) (a : List Fo.Ent) (w : World) (ha : Fo.EntsAt w ao ca a) (hb : Fo.EntsAt w bo cb a) :
    Calls Tryz.prog 57 #[.slice ao a.length ca, .slice bo a.length cb] w fun e w' => e = .returned (.bool true) ∧ Below w.heap.size w w' := by
  have := Fo.sameFolio_any ao bo ca cb a a w ha hb
  rwa [decide_eq_true rfl] at this

set_option maxHeartbeats 4000000 in
theorem sameBooking_eq (b : Bkg) (fo fo' : Option Addr) (fc fc' : Nat) (w : World) (h : Fo.EntsAt w fo fc b.fol) (h' : Fo.EntsAt w fo' fc' b.fol) :
    Calls Tryz.prog 16 #[V.bk b fo fc, V.bk b fo' fc'] w fun e w' => e = .returned (.bool true) ∧ Below w.heap.size w w' := by
  have HH : Aside (Fo.EntsAt w fo fc b.fol) := h
  have HH' : Aside (Fo.EntsAt w fo' fc' b.fol) := h'
  clear h h'
  have hb0 : Below w.heap.size w (W.bk (W.bk w b fo fc) b fo' fc') := bvia (bk_below w b fo fc) (bk_below _ b fo' fc')
  go_enter Tryz.func16, Tryz.ntmps16
  go_wp2_with fail
  refine (sameFolio_eq fo fo' fc fc' b.fol _ (SlAt.below Fo.REnt.mono HH.out hb0) (SlAt.below Fo.REnt.mono HH'.out hb0)).mono ?_
  rintro e w1 ⟨rfl, hb1⟩
  have hB1 := bvia hb0 hb1
  clear hb0 hb1
  go_wp2
  go_ret
  exact ⟨rfl, hB1⟩

abbrev C.ship (legs souls : Int) (cao bao : Option Addr) (cc bc : Nat) (cs : List Sh.Cat) (bs : List Sh.Cab) : Array Value := #[.int .i64 legs, .int .i64 souls, .slice cao cs.length cc, .slice bao bs.length bc]
set_option maxHeartbeats 8000000 in
theorem sameShip_eq (legs souls : Int) (cao bao cao' bao' : Option Addr) (cc bc cc' bc' : Nat) (cs : List Sh.Cat) (bs : List Sh.Cab) (w : World) (h : Sh.ShipAt w cao bao cc bc cs bs) (h' : Sh.ShipAt w cao' bao' cc' bc' cs bs) :
    Calls Tryz.prog 55 #[.agg #[.int .i64 legs, .int .i64 souls, .slice cao cs.length cc, .slice bao bs.length bc], .agg #[.int .i64 legs, .int .i64 souls, .slice cao' cs.length cc', .slice bao' bs.length bc']] w fun e w' => e = .returned (.bool true) ∧ Below w.heap.size w w' := by
  have hle := h.cats.le
  have hmx := h.cats.max
  have hle2 := h.cabs.le
  have hmx2 := h.cabs.max
  unfold maxLen at hmx hmx2
  have HH : Aside (Sh.ShipAt w cao bao cc bc cs bs) := h
  have HH' : Aside (Sh.ShipAt w cao' bao' cc' bc' cs bs) := h'
  clear h h'
  have hb0 : Below w.heap.size w ((w.alloc (.cells (C.ship legs souls cao bao cc bc cs bs) 25)).alloc (.cells (C.ship legs souls cao' bao' cc' bc' cs bs) 25)) := by go_grown
  have hA0 : RowIs ((w.alloc (.cells (C.ship legs souls cao bao cc bc cs bs) 25)).alloc (.cells (C.ship legs souls cao' bao' cc' bc' cs bs) 25)) w.heap.size (C.ship legs souls cao bao cc bc cs bs) := (RowIs.new w (C.ship legs souls cao bao cc bc cs bs) 25).below (by go_grown)
  have hC0 : RowIs ((w.alloc (.cells (C.ship legs souls cao bao cc bc cs bs) 25)).alloc (.cells (C.ship legs souls cao' bao' cc' bc' cs bs) 25)) (w.heap.size + 1) (C.ship legs souls cao' bao' cc' bc' cs bs) := by
    have := RowIs.new (w.alloc (.cells (C.ship legs souls cao bao cc bc cs bs) 25)) (C.ship legs souls cao' bao' cc' bc' cs bs) 25
    rwa [World.size_alloc] at this
  go_enter Tryz.func55, Tryz.ntmps55
  go_wp2
  go_loopg [5] cs.length (fun g i wr => ∃ k : Nat, k ≤ cs.length ∧ g = cs.length - k ∧ i = .int .i64 k ∧ RowIs wr w.heap.size (C.ship legs souls cao bao cc bc cs bs) ∧ RowIs wr (w.heap.size + 1) (C.ship legs souls cao' bao' cc' bc' cs bs) ∧ Below w.heap.size w wr)
  case atStart => exact ⟨0, Nat.zero_le _, rfl, rfl, hA0, hC0, hb0⟩
  case round =>
    clear hA0 hC0 hb0
    obtain ⟨k, hk, rfl, rfl, hA, hC, hB⟩ := hrel
    have HA : Aside (RowIs wr w.heap.size (C.ship legs souls cao bao cc bc cs bs)) := hA
    have HC : Aside (RowIs wr (w.heap.size + 1) (C.ship legs souls cao' bao' cc' bc' cs bs)) := hC
    have d2 : wr.cell? ⟨w.heap.size, 2, none⟩ = some (.slice cao cs.length cc) := hA.cell 2
    have e2 : wr.cell? ⟨w.heap.size + 1, 2, none⟩ = some (.slice cao' cs.length cc') := hC.cell 2
    clear hA hC
    by_cases hlt : k < cs.length
    · obtain ⟨b1, o1, nm, hs, ho, hc, rfl, hbw, hd, c0, c1, hin, hnm⟩ := Sh.CatsAt.get HH.out.cats hB k hlt
      obtain ⟨b2, o2, nm', hs', ho', hc', rfl, hbw', hd', c0', c1', hin', hnm'⟩ := Sh.CatsAt.get HH'.out.cats hB k hlt
      have e := two_heads hd hd'
      simp only [Prod.mk.injEq] at e
      obtain ⟨rfl, rfl⟩ := e
      clear hd hd' hnm'
      have hkl : (k : Int) < cs.length := by omega
      have HK : Aside (∀ W : World, Below wr.heap.size wr W → Calls Tryz.prog 39 #[.slice ho hs'.length hc, .slice ho' hs'.length hc'] W fun e w' => e = .returned (.bool true) ∧ Below W.heap.size W w') := fun W hW => sameInts_eq ho ho' hc hc' hs' W (SlAt.below RInt.mono hin hW) (SlAt.below RInt.mono hin' hW)
      have r2 := cell_regrown d2
      have s2 := cell_regrown e2
      have r3 := cell_regrown c0
      have s3 := cell_regrown c0'
      have r4 := cell_regrown c1
      have s4 := cell_regrown c1'
      clear c0 c0' c1 c1' hin hin'
      go_wp2
      clear d2 e2
      refine wp_region_quiet_below (by kernel_rfl) (by kernel_rfl) (Qt.out ?_)
      repeat (refine Qt.step (fun K hK => ?_); go_simp; first | (refine hK _ ?_; clear hK K) | (apply Exists.intro; refine ⟨fun _ => ?_, hK _ ?_⟩; (go_at_call 39; exact Calls.regrown_of (v := .bool true) (HK.out _ (below_regrown _ _ _))); clear hK K))
      refine Qt.fin ?_
      intro w2 hw2
      obtain ⟨⟨dq, osq⟩, hw2⟩ := hw2
      have hb2 := below_regrown wr dq osq
      rw [← hw2] at hb2
      clear hw2 r2 s2 r3 s3 r4 s4
      go_wp2
      go_roundg (cs.length - (k + 1))
      case measure => omega
      case rel => exact ⟨k + 1, by omega, rfl, by go_num, HA.out.below hb2, HC.out.below hb2, bvia hB hb2⟩
    · have : k = cs.length := by omega
      subst this
      go_wp2
      clear d2 e2
      go_loopg [6] bs.length (fun g i wq => ∃ k : Nat, k ≤ bs.length ∧ g = bs.length - k ∧ i = .int .i64 k ∧ RowIs wq w.heap.size (C.ship legs souls cao bao cc bc cs bs) ∧ RowIs wq (w.heap.size + 1) (C.ship legs souls cao' bao' cc' bc' cs bs) ∧ Below w.heap.size w wq)
      case atStart => exact ⟨0, Nat.zero_le _, rfl, rfl, HA.out, HC.out, hB⟩
      case round =>
        clear HA HC hB
        obtain ⟨k, hk, rfl, rfl, hA, hC, hB⟩ := hrel
        have HA : Aside (RowIs wr w.heap.size (C.ship legs souls cao bao cc bc cs bs)) := hA
        have HC : Aside (RowIs wr (w.heap.size + 1) (C.ship legs souls cao' bao' cc' bc' cs bs)) := hC
        have d2 : wr.cell? ⟨w.heap.size, 3, none⟩ = some (.slice bao bs.length bc) := hA.cell 3
        have e2 : wr.cell? ⟨w.heap.size + 1, 3, none⟩ = some (.slice bao' bs.length bc') := hC.cell 3
        clear hA hC
        by_cases hlt : k < bs.length
        · obtain ⟨b1, o1, nm, c, be, lv, rfl, hbw, hd, c0, c1, c2, c3, hnm⟩ := Sh.CabsAt.get HH.out.cabs hB k hlt
          obtain ⟨b2, o2, nm', c', be', lv', rfl, hbw', hd', c0', c1', c2', c3', hnm'⟩ := Sh.CabsAt.get HH'.out.cabs hB k hlt
          have e := two_heads hd hd'
          simp only [Prod.mk.injEq] at e
          obtain ⟨rfl, rfl, rfl, rfl⟩ := e
          clear hd hd' hnm'
          have hkl : (k : Int) < bs.length := by omega
          go_wp2
          go_quiet (fail)
          go_wp2
          go_roundg (bs.length - (k + 1))
          case measure => omega
          case rel => exact ⟨k + 1, by omega, rfl, by go_num, HA.out.below (below_drewN (Below.refl _ _) _), HC.out.below (below_drewN (Below.refl _ _) _), below_drewN hB _⟩
        · have : k = bs.length := by omega
          subst this
          go_wp2
          go_ret
          exact ⟨rfl, hB⟩

abbrev C.fares (lo bo : Option Addr) (lc bc : Nat) (L : List (List Int)) (al th : Int) (B : List (Int × Int)) (dn : Int) : Array Value := #[.slice lo L.length lc, .int .i64 al, .int .i64 th, .slice bo B.length bc, .int .i64 dn]
set_option maxHeartbeats 8000000 in
theorem sameFares_eq (lo bo lo' bo' : Option Addr) (lc bc lc' bc' : Nat) (L : List (List Int)) (al th : Int) (B : List (Int × Int)) (dn : Int) (w : World) (h : Fo.FareAt w lo bo lc bc L B) (h' : Fo.FareAt w lo' bo' lc' bc' L B) :
    Calls Tryz.prog 56 #[.agg #[.slice lo L.length lc, .int .i64 al, .int .i64 th, .slice bo B.length bc, .int .i64 dn], .agg #[.slice lo' L.length lc', .int .i64 al, .int .i64 th, .slice bo' B.length bc', .int .i64 dn]] w fun e w' => e = .returned (.bool true) ∧ Below w.heap.size w w' := by
  have hle := h.legs.le
  have hmx := h.legs.max
  have hle2 := h.bands.le
  have hmx2 := h.bands.max
  unfold maxLen at hmx hmx2
  have HH : Aside (Fo.FareAt w lo bo lc bc L B) := h
  have HH' : Aside (Fo.FareAt w lo' bo' lc' bc' L B) := h'
  clear h h'
  have hb0 : Below w.heap.size w ((w.alloc (.cells (C.fares lo bo lc bc L al th B dn) 29)).alloc (.cells (C.fares lo' bo' lc' bc' L al th B dn) 29)) := by go_grown
  have hA0 : RowIs ((w.alloc (.cells (C.fares lo bo lc bc L al th B dn) 29)).alloc (.cells (C.fares lo' bo' lc' bc' L al th B dn) 29)) w.heap.size (C.fares lo bo lc bc L al th B dn) := (RowIs.new w (C.fares lo bo lc bc L al th B dn) 29).below (by go_grown)
  have hC0 : RowIs ((w.alloc (.cells (C.fares lo bo lc bc L al th B dn) 29)).alloc (.cells (C.fares lo' bo' lc' bc' L al th B dn) 29)) (w.heap.size + 1) (C.fares lo' bo' lc' bc' L al th B dn) := by
    have := RowIs.new (w.alloc (.cells (C.fares lo bo lc bc L al th B dn) 29)) (C.fares lo' bo' lc' bc' L al th B dn) 29
    rwa [World.size_alloc] at this
  go_enter Tryz.func56, Tryz.ntmps56
  go_wp2
  go_loopg [5] L.length (fun g i wr => ∃ k : Nat, k ≤ L.length ∧ g = L.length - k ∧ i = .int .i64 k ∧ RowIs wr w.heap.size (C.fares lo bo lc bc L al th B dn) ∧ RowIs wr (w.heap.size + 1) (C.fares lo' bo' lc' bc' L al th B dn) ∧ Below w.heap.size w wr)
  case atStart => exact ⟨0, Nat.zero_le _, rfl, rfl, hA0, hC0, hb0⟩
  case round =>
    clear hA0 hC0 hb0
    obtain ⟨k, hk, rfl, rfl, hA, hC, hB⟩ := hrel
    have HA : Aside (RowIs wr w.heap.size (C.fares lo bo lc bc L al th B dn)) := hA
    have HC : Aside (RowIs wr (w.heap.size + 1) (C.fares lo' bo' lc' bc' L al th B dn)) := hC
    have d2 : wr.cell? ⟨w.heap.size, 0, none⟩ = some (.slice lo L.length lc) := hA.cell 0
    have e2 : wr.cell? ⟨w.heap.size + 1, 0, none⟩ = some (.slice lo' L.length lc') := hC.cell 0
    clear hA hC
    by_cases hlt : k < L.length
    · obtain ⟨b1, o1, r, ho, hc, rfl, hbw, hd, c0, hin⟩ := Fo.RowsAt.get HH.out.legs hB k hlt
      obtain ⟨b2, o2, r', ho', hc', rfl, hbw', hd', c0', hin'⟩ := Fo.RowsAt.get HH'.out.legs hB k hlt
      obtain rfl := two_heads hd hd'
      clear hd hd'
      have hkl : (k : Int) < L.length := by omega
      have HK : Aside (∀ W : World, Below wr.heap.size wr W → Calls Tryz.prog 39 #[.slice ho r'.length hc, .slice ho' r'.length hc'] W fun e w' => e = .returned (.bool true) ∧ Below W.heap.size W w') := fun W hW => sameInts_eq ho ho' hc hc' r' W (SlAt.below RInt.mono hin hW) (SlAt.below RInt.mono hin' hW)
      have r2 := cell_regrown d2
      have s2 := cell_regrown e2
      have r3 := cell_regrown c0
      have s3 := cell_regrown c0'
      clear c0 c0' hin hin'
      go_wp2
      clear d2 e2
      refine wp_region_quiet_below (by kernel_rfl) (by kernel_rfl) (Qt.out ?_)
      repeat (refine Qt.step (fun K hK => ?_); go_simp; first | (refine hK _ ?_; clear hK K) | (apply Exists.intro; refine ⟨fun _ => ?_, hK _ ?_⟩; (go_at_call 39; exact Calls.regrown_of (v := .bool true) (HK.out _ (below_regrown _ _ _))); clear hK K))
      refine Qt.fin ?_
      intro w2 hw2
      obtain ⟨⟨dq, osq⟩, hw2⟩ := hw2
      have hb2 := below_regrown wr dq osq
      rw [← hw2] at hb2
      clear hw2 r2 s2 r3 s3
      go_wp2
      go_roundg (L.length - (k + 1))
      case measure => omega
      case rel => exact ⟨k + 1, by omega, rfl, by go_num, HA.out.below hb2, HC.out.below hb2, bvia hB hb2⟩
    · have : k = L.length := by omega
      subst this
      go_wp2
      clear d2 e2
      go_loopg [6] B.length (fun g i wq => ∃ k : Nat, k ≤ B.length ∧ g = B.length - k ∧ i = .int .i64 k ∧ RowIs wq w.heap.size (C.fares lo bo lc bc L al th B dn) ∧ RowIs wq (w.heap.size + 1) (C.fares lo' bo' lc' bc' L al th B dn) ∧ Below w.heap.size w wq)
      case atStart => exact ⟨0, Nat.zero_le _, rfl, rfl, HA.out, HC.out, hB⟩
      case round =>
        clear HA HC hB
        obtain ⟨k, hk, rfl, rfl, hA, hC, hB⟩ := hrel
        have HA : Aside (RowIs wr w.heap.size (C.fares lo bo lc bc L al th B dn)) := hA
        have HC : Aside (RowIs wr (w.heap.size + 1) (C.fares lo' bo' lc' bc' L al th B dn)) := hC
        have d2 : wr.cell? ⟨w.heap.size, 3, none⟩ = some (.slice bo B.length bc) := hA.cell 3
        have e2 : wr.cell? ⟨w.heap.size + 1, 3, none⟩ = some (.slice bo' B.length bc') := hC.cell 3
        clear hA hC
        by_cases hlt : k < B.length
        · obtain ⟨b1, o1, u, v, rfl, hbw, hd, c0, c1⟩ := Fo.PairsAt.get HH.out.bands hB k hlt
          obtain ⟨b2, o2, u', v', rfl, hbw', hd', c0', c1'⟩ := Fo.PairsAt.get HH'.out.bands hB k hlt
          have e := two_heads hd hd'
          simp only [Prod.mk.injEq] at e
          obtain ⟨rfl, rfl⟩ := e
          clear hd hd'
          have hkl : (k : Int) < B.length := by omega
          go_wp2
          go_quiet (fail)
          go_wp2
          go_roundg (B.length - (k + 1))
          case measure => omega
          case rel => exact ⟨k + 1, by omega, rfl, by go_num, HA.out.below (below_drewN (Below.refl _ _) _), HC.out.below (below_drewN (Below.refl _ _) _), below_drewN hB _⟩
        · have : k = B.length := by omega
          subst this
          go_wp2
          go_ret
          exact ⟨rfl, hB⟩

set_option maxHeartbeats 16000000 in
theorem sameSailing_eq (x : Sail) (a a' : SailA) (w : World) (h : SailAt w x a) (h' : SailAt w x a') :
    Calls Tryz.prog 31 #[V.sail x a, V.sail x a'] w fun e w' => e = .returned (.bool true) ∧ Below w.heap.size w w' := by
  have hle := h.bks.le
  have hmx := h.bks.max
  have hle2 := h'.bks.le
  unfold maxLen at hmx
  have HH : Aside (SailAt w x a) := h
  have HH' : Aside (SailAt w x a') := h'
  clear h h'
  have hb0 : Below w.heap.size w (W.sail (W.sail w x a) x a') := bvia (sail_below w x a) (sail_below _ x a')
  have HX0 : Aside (SRow (W.sail (W.sail w x a) x a') w.heap.size x a) := (RowIs.new w _ _ : SRow (W.sail w x a) w.heap.size x a).below (sail_below _ x a')
  have HY0 : Aside (SRow (W.sail (W.sail w x a) x a') (w.heap.size + 1) x a') := by
    have := RowIs.new (W.sail w x a) (C.sail x a') 32
    rwa [World.size_alloc] at this
  obtain ⟨d0, d1, d2, d3, d4, d5, d6, d7, d8, d9, d10, d11, d12⟩ := SRow.box HX0.out
  obtain ⟨e0, e1, e2, e3, e4, e5, e6, e7, e8, e9, e10, e11, e12⟩ := SRow.box HY0.out
  go_enter Tryz.func31, Tryz.ntmps31
  go_wp2_with fail
  refine (sameShip_eq x.s.legs x.s.souls a.v.cao a.v.bao a'.v.cao a'.v.bao a.v.cc a.v.bc a'.v.cc a'.v.bc x.s.cs x.s.bs _ (HH.out.below hb0).ship (HH'.out.below hb0).ship).mono ?_
  rintro r w1 ⟨rfl, hb1⟩
  have hB1 := bvia hb0 hb1
  have HX1 : Aside (SRow w1 w.heap.size x a) := HX0.out.below hb1
  have HY1 : Aside (SRow w1 (w.heap.size + 1) x a') := HY0.out.below hb1
  clear d0 d1 d2 d3 d4 d5 d6 d7 d8 d9 d10 d11 d12 e0 e1 e2 e3 e4 e5 e6 e7 e8 e9 e10 e11 e12 HX0 HY0 hb0 hb1
  obtain ⟨d0, d1, d2, d3, d4, d5, d6, d7, d8, d9, d10, d11, d12⟩ := SRow.box HX1.out
  obtain ⟨e0, e1, e2, e3, e4, e5, e6, e7, e8, e9, e10, e11, e12⟩ := SRow.box HY1.out
  go_wp2_with fail
  refine (sameFares_eq a.lo a.bo a'.lo a'.bo a.lc a.bc a'.lc a'.bc x.L x.al x.th x.B x.dn _ (HH.out.below hB1).fare (HH'.out.below hB1).fare).mono ?_
  rintro r w2 ⟨rfl, hb2⟩
  have hB2 := bvia hB1 hb2
  have HX2 : Aside (SRow w2 w.heap.size x a) := HX1.out.below hb2
  have HY2 : Aside (SRow w2 (w.heap.size + 1) x a') := HY1.out.below hb2
  clear d0 d1 d2 d3 d4 d5 d6 d7 d8 d9 d10 d11 d12 e0 e1 e2 e3 e4 e5 e6 e7 e8 e9 e10 e11 e12 HX1 HY1 hB1 hb2
  go_wp2
  go_loopg [5] x.bks.length (fun g i wr => ∃ k : Nat, k ≤ x.bks.length ∧ g = x.bks.length - k ∧ i = .int .i64 k ∧ Aside (SRow wr w.heap.size x a) ∧ Aside (SRow wr (w.heap.size + 1) x a') ∧ Below w.heap.size w wr)
  case atStart => exact ⟨0, Nat.zero_le _, rfl, rfl, HX2, HY2, hB2⟩
  case round =>
    clear HX2 HY2 hB2
    obtain ⟨k, hk, rfl, rfl, HX, HY, hB⟩ := hrel
    have d11 : wr.cell? ⟨w.heap.size, 11, none⟩ = some (.slice a.ao x.bks.length a.cap) := HX.out.cell 11
    have e11 : wr.cell? ⟨w.heap.size + 1, 11, none⟩ = some (.slice a'.ao x.bks.length a'.cap) := HY.out.cell 11
    by_cases hlt : k < x.bks.length
    · obtain ⟨b1, o1, y, fo, fc, hao, hbw, hd, ⟨y0, y1, y2, y3, y4, y5, y6, y7, y8, y9, y10⟩, hfy⟩ := BksAt.get HH.out.bks hB k hlt
      obtain ⟨b2, o2, y', fo', fc', hao', hbw', hd', ⟨z0, z1, z2, z3, z4, z5, z6, z7, z8, z9, z10⟩, hfy'⟩ := BksAt.get HH'.out.bks hB k hlt
      obtain rfl := two_heads hd hd'
      clear hd hd'
      rw [hao] at d11
      rw [hao'] at e11
      clear hao hao'
      have hkl : (k : Int) < x.bks.length := by omega
      have HK : Aside (∀ W : World, Below wr.heap.size wr W → Calls Tryz.prog 16 #[V.bk y' fo fc, V.bk y' fo' fc'] W fun e w' => e = .returned (.bool true) ∧ Below W.heap.size W w') := fun W hW => sameBooking_eq y' fo fo' fc fc' W (SlAt.below Fo.REnt.mono hfy hW) (SlAt.below Fo.REnt.mono hfy' hW)
      have r2 := cell_regrown d11
      have s2 := cell_regrown e11
      have ra0 := cell_regrown y0
      have rb0 := cell_regrown z0
      have ra1 := cell_regrown y1
      have rb1 := cell_regrown z1
      have ra2 := cell_regrown y2
      have rb2 := cell_regrown z2
      have ra3 := cell_regrown y3
      have rb3 := cell_regrown z3
      have ra4 := cell_regrown y4
      have rb4 := cell_regrown z4
      have ra5 := cell_regrown y5
      have rb5 := cell_regrown z5
      have ra6 := cell_regrown y6
      have rb6 := cell_regrown z6
      have ra7 := cell_regrown y7
      have rb7 := cell_regrown z7
      have ra8 := cell_regrown y8
      have rb8 := cell_regrown z8
      have ra9 := cell_regrown y9
      have rb9 := cell_regrown z9
      have ra10 := cell_regrown y10
      have rb10 := cell_regrown z10
      clear hfy hfy'
      go_wp2
      clear d11 e11 y0 z0 y1 z1 y2 z2 y3 z3 y4 z4 y5 z5 y6 z6 y7 z7 y8 z8 y9 z9 y10 z10
      refine wp_region_quiet_below (by kernel_rfl) (by kernel_rfl) (Qt.out ?_)
      repeat (refine Qt.step (fun K hK => ?_); go_simp; first | (refine hK _ ?_; clear hK K) | (apply Exists.intro; refine ⟨fun _ => ?_, hK _ ?_⟩; (go_at_call 16; exact Calls.regrown_of (v := .bool true) (HK.out _ (below_regrown _ _ _))); clear hK K))
      refine Qt.fin ?_
      intro w2 hw2
      obtain ⟨⟨dq, osq⟩, hw2⟩ := hw2
      have hb2 := below_regrown wr dq osq
      rw [← hw2] at hb2
      clear hw2 r2 s2 ra0 rb0 ra1 rb1 ra2 rb2 ra3 rb3 ra4 rb4 ra5 rb5 ra6 rb6 ra7 rb7 ra8 rb8 ra9 rb9 ra10 rb10
      go_wp2
      go_roundg (x.bks.length - (k + 1))
      case measure => omega
      case rel => exact ⟨k + 1, by omega, rfl, by go_num, HX.out.below hb2, HY.out.below hb2, bvia hB hb2⟩
    · have : k = x.bks.length := by omega
      subst this
      go_wp2
      go_ret
      exact ⟨rfl, hB⟩

end Go.Proofs.YtlamhfbdeinkkaeGreat.St
