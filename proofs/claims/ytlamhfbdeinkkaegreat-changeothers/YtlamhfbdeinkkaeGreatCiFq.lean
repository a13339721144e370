/- The walk of ChangeOthers. -/
import Derived.Test.YtlamhfbdeinkkaeGreatSeHq
import Derived.Test.YtlamhfbdeinkkaeGreatSeYq
import Derived.Test.YtlamhfbdeinkkaeGreatCiBq
namespace Go.Proofs.YtlamhfbdeinkkaeGreat.St
open Go.RowKit Bk
set_option linter.unusedSimpArgs false
set_option linter.unusedVariables false
set_option maxRecDepth 20000

/-- What is known behind a change that is done. -/
structure Done (x : Sail) (id : Int) (y : Sail) (B2 : List Bkg) : Prop where
  is : y = P.setB x B2
  right : P.SailE y 0
  len : B2.length = x.bks.length
  l16 : x.bks.length ≤ 16
  mem : ∀ b ∈ x.bks, b.id ≠ id → b ∈ B2
  rise : B2.Pairwise (fun a b => a.id < b.id)
theorem chg_err {x : Sail} {id r : Int} {T : Bkg → Int → Bkg → Prop} {y : Sail} (h : P.Chg x id T r y) (hr : ¬ r = 0) : y = P.zeroS := by
  rcases h with ⟨q, _, _, _, h⟩ | ⟨_, ⟨_, _, h⟩ | ⟨k, b, _, _, ⟨_, _, h⟩ | ⟨_, z, q, _, _, ⟨_, h, _⟩ | ⟨_, _, h⟩⟩⟩⟩
  · exact h
  · exact h
  · exact h
  · exact absurd h hr
  · exact h
theorem chg_done {x : Sail} {id : Int} {T : Bkg → Int → Bkg → Prop} {y : Sail} (h : P.Chg x id T 0 y) : ∃ B2, Done x id y B2 := by
  rcases h with ⟨q, _, h1, h2, _⟩ | ⟨hE, ⟨_, h, _⟩ | ⟨k, b, h1, h2, ⟨_, h, _⟩ | ⟨_, z, q, ⟨b', _, hz⟩, h3, ⟨h4, _, h5⟩ | ⟨h4, h5, _⟩⟩⟩⟩
  · exact absurd h2.symm h1
  · exact absurd h (by decide)
  · exact absurd rfl h
  · subst h4
    subst h5
    have hid : b.id = id := by
      rcases h1 with ⟨k', b2, e, g1, g2, _⟩ | ⟨e, _⟩
      · obtain rfl : k = k' := by omega
        rw [h2] at g1
        obtain rfl := Option.some.inj g1
        exact g2
      · omega
    refine ⟨x.bks.set k b', hz, h3, by simp, (sail_ok hE).2.2.2.2.1, fun d hd hne => ?_, ?_⟩
    · obtain ⟨j, hj, e⟩ := List.getElem_of_mem hd
      have hjk : k ≠ j := by
        rintro rfl
        rw [List.getElem?_eq_getElem hj, e] at h2
        obtain rfl := Option.some.inj h2
        exact hne hid
      refine List.mem_of_getElem? (i := j) ?_
      rw [List.getElem?_set_ne hjk, List.getElem?_eq_getElem hj, e]
    · have := rise_of h3
      rw [hz] at this
      exact this
  · exact absurd h5.symm h4

abbrev C.four (y1 y2 y3 y4 : Sail) (a1 a2 a3 a4 : SailA) : Array Value := #[.int .i64 y1.s.legs, .int .i64 y1.s.souls, .slice a1.v.cao y1.s.cs.length a1.v.cc, .slice a1.v.bao y1.s.bs.length a1.v.bc, .slice a1.lo y1.L.length a1.lc, .int .i64 y1.al, .int .i64 y1.th, .slice a1.bo y1.B.length a1.bc, .int .i64 y1.dn, .int .i64 y1.day, .int .i64 y1.lvs, .slice a1.ao y1.bks.length a1.cap, .bool y1.cl, .int .i64 y2.s.legs, .int .i64 y2.s.souls, .slice a2.v.cao y2.s.cs.length a2.v.cc, .slice a2.v.bao y2.s.bs.length a2.v.bc, .slice a2.lo y2.L.length a2.lc, .int .i64 y2.al, .int .i64 y2.th, .slice a2.bo y2.B.length a2.bc, .int .i64 y2.dn, .int .i64 y2.day, .int .i64 y2.lvs, .slice a2.ao y2.bks.length a2.cap, .bool y2.cl, .int .i64 y3.s.legs, .int .i64 y3.s.souls, .slice a3.v.cao y3.s.cs.length a3.v.cc, .slice a3.v.bao y3.s.bs.length a3.v.bc, .slice a3.lo y3.L.length a3.lc, .int .i64 y3.al, .int .i64 y3.th, .slice a3.bo y3.B.length a3.bc, .int .i64 y3.dn, .int .i64 y3.day, .int .i64 y3.lvs, .slice a3.ao y3.bks.length a3.cap, .bool y3.cl, .int .i64 y4.s.legs, .int .i64 y4.s.souls, .slice a4.v.cao y4.s.cs.length a4.v.cc, .slice a4.v.bao y4.s.bs.length a4.v.bc, .slice a4.lo y4.L.length a4.lc, .int .i64 y4.al, .int .i64 y4.th, .slice a4.bo y4.B.length a4.bc, .int .i64 y4.dn, .int .i64 y4.day, .int .i64 y4.lvs, .slice a4.ao y4.bks.length a4.cap, .bool y4.cl]

/-- The four sailings, and their errnos, lie where a loop reads them. -/
def AllAt (x : Sail) (id : Int) (wr : World) (G : Nat) : Prop := ∀ i : Nat, i < 4 → ∃ (y : Sail) (b : SailA) (r : Int), (∀ j v, (C.sail y b)[j]? = some v → wr.cell? ⟨G, i * 13 + j, none⟩ = some v) ∧ wr.cell? ⟨G + 1, i, none⟩ = some (.int .i64 r) ∧ SailAt wr y b ∧ (¬ r = 0 → y = P.zeroS) ∧ (r = 0 → ∃ B2, Done x id y B2)
theorem AllAt.below {x : Sail} {id : Int} {w w' : World} {G : Nat} (h : AllAt x id w G) (hb : Below w.heap.size w w') : AllAt x id w' G := fun i hi => by
  obtain ⟨y, b, r, h1, h2, h3, h4, h5⟩ := h i hi
  exact ⟨y, b, r, fun j v e => cellIn hb (h1 j v e), cellIn hb h2, h3.below hb, h4, h5⟩
theorem rL {x : Sail} {id : Int} {w w' : World} {G : Nat} (h : Aside (AllAt x id w G)) (hb : Below w.heap.size w w') : Aside (AllAt x id w' G) := h.out.below hb
theorem sail_lt {y : Sail} {b : SailA} {j : Nat} {v : Value} (h : (C.sail y b)[j]? = some v) : j < 13 := by
  obtain ⟨h1, _⟩ := Array.getElem?_eq_some_iff.1 h
  exact h1
theorem four_at {x : Sail} {id : Int} {w : World} {G : Nat} {y1 y2 y3 y4 : Sail} {a1 a2 a3 a4 : SailA} {r1 r2 r3 r4 : Int} {T1 T2 T3 T4 : Bkg → Int → Bkg → Prop} (hF : RowIs w G (C.four y1 y2 y3 y4 a1 a2 a3 a4)) (hG : RowIs w (G + 1) #[.int .i64 r1, .int .i64 r2, .int .i64 r3, .int .i64 r4])
    (hA1 : SailAt w y1 a1) (hA2 : SailAt w y2 a2) (hA3 : SailAt w y3 a3) (hA4 : SailAt w y4 a4) (hS1 : P.Chg x id T1 r1 y1) (hS2 : P.Chg x id T2 r2 y2) (hS3 : P.Chg x id T3 r3 y3) (hS4 : P.Chg x id T4 r4 y4) : AllAt x id w G := by
  intro i hi
  rcases (by omega : i = 0 ∨ i = 1 ∨ i = 2 ∨ i = 3) with rfl | rfl | rfl | rfl
  · refine ⟨y1, a1, r1, fun j v h => ?_, hG.cell 0, hA1, chg_err hS1, fun h => chg_done (h ▸ hS1)⟩
    have hj := sail_lt h
    rcases (by omega : j = 0 ∨ j = 1 ∨ j = 2 ∨ j = 3 ∨ j = 4 ∨ j = 5 ∨ j = 6 ∨ j = 7 ∨ j = 8 ∨ j = 9 ∨ j = 10 ∨ j = 11 ∨ j = 12) with rfl | rfl | rfl | rfl | rfl | rfl | rfl | rfl | rfl | rfl | rfl | rfl | rfl
    · exact (hF.cell 0).trans h
    · exact (hF.cell 1).trans h
    · exact (hF.cell 2).trans h
    · exact (hF.cell 3).trans h
    · exact (hF.cell 4).trans h
    · exact (hF.cell 5).trans h
    · exact (hF.cell 6).trans h
    · exact (hF.cell 7).trans h
    · exact (hF.cell 8).trans h
    · exact (hF.cell 9).trans h
    · exact (hF.cell 10).trans h
    · exact (hF.cell 11).trans h
    · exact (hF.cell 12).trans h
  · refine ⟨y2, a2, r2, fun j v h => ?_, hG.cell 1, hA2, chg_err hS2, fun h => chg_done (h ▸ hS2)⟩
    have hj := sail_lt h
    rcases (by omega : j = 0 ∨ j = 1 ∨ j = 2 ∨ j = 3 ∨ j = 4 ∨ j = 5 ∨ j = 6 ∨ j = 7 ∨ j = 8 ∨ j = 9 ∨ j = 10 ∨ j = 11 ∨ j = 12) with rfl | rfl | rfl | rfl | rfl | rfl | rfl | rfl | rfl | rfl | rfl | rfl | rfl
    · exact (hF.cell 13).trans h
    · exact (hF.cell 14).trans h
    · exact (hF.cell 15).trans h
    · exact (hF.cell 16).trans h
    · exact (hF.cell 17).trans h
    · exact (hF.cell 18).trans h
    · exact (hF.cell 19).trans h
    · exact (hF.cell 20).trans h
    · exact (hF.cell 21).trans h
    · exact (hF.cell 22).trans h
    · exact (hF.cell 23).trans h
    · exact (hF.cell 24).trans h
    · exact (hF.cell 25).trans h
  · refine ⟨y3, a3, r3, fun j v h => ?_, hG.cell 2, hA3, chg_err hS3, fun h => chg_done (h ▸ hS3)⟩
    have hj := sail_lt h
    rcases (by omega : j = 0 ∨ j = 1 ∨ j = 2 ∨ j = 3 ∨ j = 4 ∨ j = 5 ∨ j = 6 ∨ j = 7 ∨ j = 8 ∨ j = 9 ∨ j = 10 ∨ j = 11 ∨ j = 12) with rfl | rfl | rfl | rfl | rfl | rfl | rfl | rfl | rfl | rfl | rfl | rfl | rfl
    · exact (hF.cell 26).trans h
    · exact (hF.cell 27).trans h
    · exact (hF.cell 28).trans h
    · exact (hF.cell 29).trans h
    · exact (hF.cell 30).trans h
    · exact (hF.cell 31).trans h
    · exact (hF.cell 32).trans h
    · exact (hF.cell 33).trans h
    · exact (hF.cell 34).trans h
    · exact (hF.cell 35).trans h
    · exact (hF.cell 36).trans h
    · exact (hF.cell 37).trans h
    · exact (hF.cell 38).trans h
  · refine ⟨y4, a4, r4, fun j v h => ?_, hG.cell 3, hA4, chg_err hS4, fun h => chg_done (h ▸ hS4)⟩
    have hj := sail_lt h
    rcases (by omega : j = 0 ∨ j = 1 ∨ j = 2 ∨ j = 3 ∨ j = 4 ∨ j = 5 ∨ j = 6 ∨ j = 7 ∨ j = 8 ∨ j = 9 ∨ j = 10 ∨ j = 11 ∨ j = 12) with rfl | rfl | rfl | rfl | rfl | rfl | rfl | rfl | rfl | rfl | rfl | rfl | rfl
    · exact (hF.cell 39).trans h
    · exact (hF.cell 40).trans h
    · exact (hF.cell 41).trans h
    · exact (hF.cell 42).trans h
    · exact (hF.cell 43).trans h
    · exact (hF.cell 44).trans h
    · exact (hF.cell 45).trans h
    · exact (hF.cell 46).trans h
    · exact (hF.cell 47).trans h
    · exact (hF.cell 48).trans h
    · exact (hF.cell 49).trans h
    · exact (hF.cell 50).trans h
    · exact (hF.cell 51).trans h

set_option maxHeartbeats 64000000 in
theorem changeOthers_walk (x : Sail) (a : SailA) (id m c : Int) (w : World) (hs : SailAt w x a) :
    Calls Tryz.prog 6 #[V.sail x a, .int .i64 id, .int .i64 m, .int .i64 c] w fun e w' => e = .returned (.bool true) ∧ Below w.heap.size w w' := by
  have hle := hs.bks.le
  have hmx := hs.bks.max
  unfold maxLen at hmx
  have HS : Aside (SailAt w x a) := hs
  have hb0 := sail_below w x a
  have HX0 : Aside (SRow (W.sail w x a) w.heap.size x a) := RowIs.new w _ _
  clear hs
  go_enter Tryz.func6, Tryz.ntmps6
  go_wp2_with fail
  refine (changeBegun_any _).mono ?_
  rintro e v1 ⟨rfl, hb1⟩
  have hB1 := bvia hb0 hb1
  have HX1 : Aside (SRow v1 w.heap.size x a) := HX0.out.below hb1
  clear HX0 hb0 hb1
  go_wp2_with fail
  refine (stockBegun_any _).mono ?_
  rintro e v2 ⟨rfl, hb2⟩
  have HW : Aside (Below w.heap.size w v2) := bvia hB1 hb2
  have HX : Aside (SRow v2 w.heap.size x a) := HX1.out.below hb2
  clear HX1 hB1 hb2
  obtain ⟨d0, d1, d2, d3, d4, d5, d6, d7, d8, d9, d10, d11, d12⟩ := SRow.box HX.out
  go_wp2_with fail
  refine (sure_any x a id _ (HS.out.below HW.out)).mono ?_
  rintro e w1 ⟨r1, y1, a1, rfl, hS1, hU1, hb1⟩
  replace HW := rW HW hb1
  replace HX := rA HX hb1
  clear d0 d1 d2 d3 d4 d5 d6 d7 d8 d9 d10 d11 d12
  have HS1 : Aside (P.Chg x id P.sureT r1 y1) := hS1
  have hs1' := sail_below w1 y1 a1
  have HA1 : Aside (SailAt (W.sail w1 y1 a1) y1 a1) := hU1.at.below hs1'
  have HR1 : Aside (SRow (W.sail w1 y1 a1) w1.heap.size y1 a1) := RowIs.new w1 _ _
  replace HW := rW HW hs1'
  replace HX := rA HX hs1'
  clear hS1 hU1 hb1 hs1'
  obtain ⟨d0, d1, d2, d3, d4, d5, d6, d7, d8, d9, d10, d11, d12⟩ := SRow.box HX.out
  go_wp2_with fail
  refine (pay_any x a id m _ (HS.out.below HW.out)).mono ?_
  rintro e w2 ⟨r2, y2, a2, rfl, hS2, hU2, hb2⟩
  replace HW := rW HW hb2
  replace HX := rA HX hb2
  replace HA1 := rS HA1 hb2
  replace HR1 := rA HR1 hb2
  clear d0 d1 d2 d3 d4 d5 d6 d7 d8 d9 d10 d11 d12
  have HS2 : Aside (P.Chg x id (P.payT x.day m) r2 y2) := hS2
  have hs2' := sail_below w2 y2 a2
  have HA2 : Aside (SailAt (W.sail w2 y2 a2) y2 a2) := hU2.at.below hs2'
  have HR2 : Aside (SRow (W.sail w2 y2 a2) w2.heap.size y2 a2) := RowIs.new w2 _ _
  replace HW := rW HW hs2'
  replace HX := rA HX hs2'
  replace HA1 := rS HA1 hs2'
  replace HR1 := rA HR1 hs2'
  clear hS2 hU2 hb2 hs2'
  obtain ⟨d0, d1, d2, d3, d4, d5, d6, d7, d8, d9, d10, d11, d12⟩ := SRow.box HX.out
  go_wp2_with fail
  refine (cancel_any x a id _ (HS.out.below HW.out)).mono ?_
  rintro e w3 ⟨r3, y3, a3, rfl, hS3, hU3, hb3⟩
  replace HW := rW HW hb3
  replace HX := rA HX hb3
  replace HA1 := rS HA1 hb3
  replace HR1 := rA HR1 hb3
  replace HA2 := rS HA2 hb3
  replace HR2 := rA HR2 hb3
  clear d0 d1 d2 d3 d4 d5 d6 d7 d8 d9 d10 d11 d12
  have HS3 : Aside (P.Chg x id (P.cnT x) r3 y3) := hS3
  have hs3' := sail_below w3 y3 a3
  have HA3 : Aside (SailAt (W.sail w3 y3 a3) y3 a3) := hU3.at.below hs3'
  have HR3 : Aside (SRow (W.sail w3 y3 a3) w3.heap.size y3 a3) := RowIs.new w3 _ _
  replace HW := rW HW hs3'
  replace HX := rA HX hs3'
  replace HA1 := rS HA1 hs3'
  replace HR1 := rA HR1 hs3'
  replace HA2 := rS HA2 hs3'
  replace HR2 := rA HR2 hs3'
  clear hS3 hU3 hb3 hs3'
  obtain ⟨d0, d1, d2, d3, d4, d5, d6, d7, d8, d9, d10, d11, d12⟩ := SRow.box HX.out
  go_wp2_with fail
  refine (move_any x a id c _ (HS.out.below HW.out)).mono ?_
  rintro e w4 ⟨r4, y4, a4, rfl, hS4, hU4, hb4⟩
  replace HW := rW HW hb4
  replace HX := rA HX hb4
  replace HA1 := rS HA1 hb4
  replace HR1 := rA HR1 hb4
  replace HA2 := rS HA2 hb4
  replace HR2 := rA HR2 hb4
  replace HA3 := rS HA3 hb4
  replace HR3 := rA HR3 hb4
  clear d0 d1 d2 d3 d4 d5 d6 d7 d8 d9 d10 d11 d12
  have HS4 : Aside (P.Chg x id (P.mvT x c) r4 y4) := hS4
  have hs4' := sail_below w4 y4 a4
  have HA4 : Aside (SailAt (W.sail w4 y4 a4) y4 a4) := hU4.at.below hs4'
  have HR4 : Aside (SRow (W.sail w4 y4 a4) w4.heap.size y4 a4) := RowIs.new w4 _ _
  replace HW := rW HW hs4'
  replace HX := rA HX hs4'
  replace HA1 := rS HA1 hs4'
  replace HR1 := rA HR1 hs4'
  replace HA2 := rS HA2 hs4'
  replace HR2 := rA HR2 hs4'
  replace HA3 := rS HA3 hs4'
  replace HR3 := rA HR3 hs4'
  clear hS4 hU4 hb4 hs4'
  obtain ⟨c10, c11, c12, c13, c14, c15, c16, c17, c18, c19, c110, c111, c112⟩ := SRow.box HR1.out
  obtain ⟨c20, c21, c22, c23, c24, c25, c26, c27, c28, c29, c210, c211, c212⟩ := SRow.box HR2.out
  obtain ⟨c30, c31, c32, c33, c34, c35, c36, c37, c38, c39, c310, c311, c312⟩ := SRow.box HR3.out
  obtain ⟨c40, c41, c42, c43, c44, c45, c46, c47, c48, c49, c410, c411, c412⟩ := SRow.box HR4.out
  go_wp2
  have hw4 : w4.heap.size + 1 = (W.sail w4 y4 a4).heap.size := by simp
  have hal : Below (W.sail w4 y4 a4).heap.size (W.sail w4 y4 a4) (((W.sail w4 y4 a4).alloc (.cells (C.four y1 y2 y3 y4 a1 a2 a3 a4) 32)).alloc (.cells #[.int .i64 r1, .int .i64 r2, .int .i64 r3, .int .i64 r4] 39)) := bvia (al _ _) (al _ _)
  have HF : Aside (RowIs (((W.sail w4 y4 a4).alloc (.cells (C.four y1 y2 y3 y4 a1 a2 a3 a4) 32)).alloc (.cells #[.int .i64 r1, .int .i64 r2, .int .i64 r3, .int .i64 r4] 39)) (w4.heap.size + 1) (C.four y1 y2 y3 y4 a1 a2 a3 a4)) := by
    have := (RowIs.new (W.sail w4 y4 a4) (C.four y1 y2 y3 y4 a1 a2 a3 a4) 32).below (al _ (.cells #[.int .i64 r1, .int .i64 r2, .int .i64 r3, .int .i64 r4] 39))
    rwa [World.size_alloc] at this
  have HG : Aside (RowIs (((W.sail w4 y4 a4).alloc (.cells (C.four y1 y2 y3 y4 a1 a2 a3 a4) 32)).alloc (.cells #[.int .i64 r1, .int .i64 r2, .int .i64 r3, .int .i64 r4] 39)) (w4.heap.size + 1 + 1) #[.int .i64 r1, .int .i64 r2, .int .i64 r3, .int .i64 r4]) := by
    have := RowIs.new ((W.sail w4 y4 a4).alloc (.cells (C.four y1 y2 y3 y4 a1 a2 a3 a4) 32)) #[.int .i64 r1, .int .i64 r2, .int .i64 r3, .int .i64 r4] 39
    rwa [World.size_alloc, World.size_alloc] at this
  clear c10 c11 c12 c13 c14 c15 c16 c17 c18 c19 c110 c111 c112
  clear c20 c21 c22 c23 c24 c25 c26 c27 c28 c29 c210 c211 c212
  clear c30 c31 c32 c33 c34 c35 c36 c37 c38 c39 c310 c311 c312
  clear c40 c41 c42 c43 c44 c45 c46 c47 c48 c49 c410 c411 c412
  replace HW := rW HW hal
  replace HX := rA HX hal
  replace HA1 := rS HA1 hal
  replace HA2 := rS HA2 hal
  replace HA3 := rS HA3 hal
  replace HA4 := rS HA4 hal
  have HL : Aside (AllAt x id (((W.sail w4 y4 a4).alloc (.cells (C.four y1 y2 y3 y4 a1 a2 a3 a4) 32)).alloc (.cells #[.int .i64 r1, .int .i64 r2, .int .i64 r3, .int .i64 r4] 39)) (w4.heap.size + 1)) := four_at HF.out HG.out HA1.out HA2.out HA3.out HA4.out HS1.out HS2.out HS3.out HS4.out
  clear HR1 HR2 HR3 HR4 HA1 HA2 HA3 HA4 HF HG HS1 HS2 HS3 HS4 hal hw4
  go_loopg [19] 4 (fun q iv wr => ∃ i : Nat, i ≤ 4 ∧ q = 4 - i ∧ iv = .int .i64 i ∧ Aside (Below w.heap.size w wr) ∧ Aside (SRow wr w.heap.size x a) ∧ Aside (AllAt x id wr (w4.heap.size + 1)))
  case atStart => exact ⟨0, Nat.zero_le _, rfl, rfl, HW, HX, HL⟩
  case round =>
    clear HW HX HL
    obtain ⟨i, hi, rfl, rfl, HW, HX, HL⟩ := hrel
    by_cases hlt : i < 4
    rotate_left
    · obtain rfl : i = 4 := by omega
      go_wp2
      go_ret
      exact ⟨rfl, HW.out⟩
    have hlt2 : (i : Int) < 4 := by omega
    obtain ⟨y, b, r, hc, g0, hA, hr0, hr1⟩ := HL.out i hlt
    have HA : Aside (SailAt wr y b) := hA
    clear hA
    cases hz : (r != 0)
    rotate_left
    · have hyz := hr0 (by simpa using hz)
      have f11 : wr.cell? ⟨w4.heap.size + 1, i * 13 + 11, none⟩ = some (.slice b.ao 0 b.cap) := by
        have h : wr.cell? ⟨w4.heap.size + 1, i * 13 + 11, none⟩ = some (.slice b.ao y.bks.length b.cap) := hc 11 _ rfl
        rw [hyz] at h
        exact h
      clear hyz hc hr0 hr1
      go_wp2
      go_roundg (4 - (i + 1))
      case measure => omega
      case rel => exact ⟨i + 1, by omega, rfl, by go_num, HW, HX, HL⟩
    obtain rfl : r = 0 := by simpa using hz
    obtain ⟨B2, hD⟩ := hr1 rfl
    have HD : Aside (Done x id y B2) := hD
    have hlb : (((y.bks.length : Nat) : Int) != (x.bks.length : Nat)) = false := by have h1 := hD.len; have h2 := hD.is; rw [h2]; show (((B2.length : Nat) : Int) != _) = false; rw [h1]; simp
    have e0 : wr.cell? ⟨w4.heap.size + 1, i * 13, none⟩ = some (.int .i64 y.s.legs) := hc 0 _ rfl
    have e1 : wr.cell? ⟨w4.heap.size + 1, i * 13 + 1, none⟩ = some (.int .i64 y.s.souls) := hc 1 _ rfl
    have e2 : wr.cell? ⟨w4.heap.size + 1, i * 13 + 2, none⟩ = some (.slice b.v.cao y.s.cs.length b.v.cc) := hc 2 _ rfl
    have e3 : wr.cell? ⟨w4.heap.size + 1, i * 13 + 3, none⟩ = some (.slice b.v.bao y.s.bs.length b.v.bc) := hc 3 _ rfl
    have e4 : wr.cell? ⟨w4.heap.size + 1, i * 13 + 4, none⟩ = some (.slice b.lo y.L.length b.lc) := hc 4 _ rfl
    have e5 : wr.cell? ⟨w4.heap.size + 1, i * 13 + 5, none⟩ = some (.int .i64 y.al) := hc 5 _ rfl
    have e6 : wr.cell? ⟨w4.heap.size + 1, i * 13 + 6, none⟩ = some (.int .i64 y.th) := hc 6 _ rfl
    have e7 : wr.cell? ⟨w4.heap.size + 1, i * 13 + 7, none⟩ = some (.slice b.bo y.B.length b.bc) := hc 7 _ rfl
    have e8 : wr.cell? ⟨w4.heap.size + 1, i * 13 + 8, none⟩ = some (.int .i64 y.dn) := hc 8 _ rfl
    have e9 : wr.cell? ⟨w4.heap.size + 1, i * 13 + 9, none⟩ = some (.int .i64 y.day) := hc 9 _ rfl
    have e10 : wr.cell? ⟨w4.heap.size + 1, i * 13 + 10, none⟩ = some (.int .i64 y.lvs) := hc 10 _ rfl
    have e11 : wr.cell? ⟨w4.heap.size + 1, i * 13 + 11, none⟩ = some (.slice b.ao y.bks.length b.cap) := hc 11 _ rfl
    have e12 : wr.cell? ⟨w4.heap.size + 1, i * 13 + 12, none⟩ = some (.bool y.cl) := hc 12 _ rfl
    have HST : Aside (∀ (u : World), SailAt u x a → SailAt u y b → Calls Tryz.prog 15 #[V.sail x a, V.sail y b, .int .i64 id] u fun e w' => e = .returned (.bool true) ∧ Below u.heap.size u w') := by
      show ∀ (u : World), _
      rw [HD.out.is]
      exact fun u h1 h2 => othersStay_any x B2 a b id u h1 h2 HD.out.mem HD.out.rise HD.out.l16 (by have := HD.out.len; have := HD.out.l16; omega)
    clear hD hz hc hr0 hr1
    obtain ⟨d0, d1, d2, d3, d4, d5, d6, d7, d8, d9, d10, d11, d12⟩ := SRow.box HX.out
    go_wp2
    refine wp_region_before (L := 27) (S := fun u : World => u.cell? ⟨w.heap.size, 0, none⟩ = some (.int .i64 x.s.legs) ∧ u.cell? ⟨w.heap.size, 1, none⟩ = some (.int .i64 x.s.souls) ∧ u.cell? ⟨w.heap.size, 2, none⟩ = some (.slice a.v.cao x.s.cs.length a.v.cc) ∧ u.cell? ⟨w.heap.size, 3, none⟩ = some (.slice a.v.bao x.s.bs.length a.v.bc) ∧ u.cell? ⟨w.heap.size, 4, none⟩ = some (.slice a.lo x.L.length a.lc) ∧ u.cell? ⟨w.heap.size, 5, none⟩ = some (.int .i64 x.al) ∧ u.cell? ⟨w.heap.size, 6, none⟩ = some (.int .i64 x.th) ∧ u.cell? ⟨w.heap.size, 7, none⟩ = some (.slice a.bo x.B.length a.bc) ∧ u.cell? ⟨w.heap.size, 8, none⟩ = some (.int .i64 x.dn) ∧ u.cell? ⟨w.heap.size, 9, none⟩ = some (.int .i64 x.day) ∧ u.cell? ⟨w.heap.size, 10, none⟩ = some (.int .i64 x.lvs) ∧ u.cell? ⟨w.heap.size, 11, none⟩ = some (.slice a.ao x.bks.length a.cap) ∧ u.cell? ⟨w.heap.size, 12, none⟩ = some (.bool x.cl) ∧ u.cell? ⟨w4.heap.size + 1, i * 13, none⟩ = some (.int .i64 y.s.legs) ∧ u.cell? ⟨w4.heap.size + 1, i * 13 + 1, none⟩ = some (.int .i64 y.s.souls) ∧ u.cell? ⟨w4.heap.size + 1, i * 13 + 2, none⟩ = some (.slice b.v.cao y.s.cs.length b.v.cc) ∧ u.cell? ⟨w4.heap.size + 1, i * 13 + 3, none⟩ = some (.slice b.v.bao y.s.bs.length b.v.bc) ∧ u.cell? ⟨w4.heap.size + 1, i * 13 + 4, none⟩ = some (.slice b.lo y.L.length b.lc) ∧ u.cell? ⟨w4.heap.size + 1, i * 13 + 5, none⟩ = some (.int .i64 y.al) ∧ u.cell? ⟨w4.heap.size + 1, i * 13 + 6, none⟩ = some (.int .i64 y.th) ∧ u.cell? ⟨w4.heap.size + 1, i * 13 + 7, none⟩ = some (.slice b.bo y.B.length b.bc) ∧ u.cell? ⟨w4.heap.size + 1, i * 13 + 8, none⟩ = some (.int .i64 y.dn) ∧ u.cell? ⟨w4.heap.size + 1, i * 13 + 9, none⟩ = some (.int .i64 y.day) ∧ u.cell? ⟨w4.heap.size + 1, i * 13 + 10, none⟩ = some (.int .i64 y.lvs) ∧ u.cell? ⟨w4.heap.size + 1, i * 13 + 11, none⟩ = some (.slice b.ao y.bks.length b.cap) ∧ u.cell? ⟨w4.heap.size + 1, i * 13 + 12, none⟩ = some (.bool y.cl)) (by kernel_rfl) (fun hset => ?_)
    have hS : (fun u : World => u.cell? ⟨w.heap.size, 0, none⟩ = some (.int .i64 x.s.legs) ∧ u.cell? ⟨w.heap.size, 1, none⟩ = some (.int .i64 x.s.souls) ∧ u.cell? ⟨w.heap.size, 2, none⟩ = some (.slice a.v.cao x.s.cs.length a.v.cc) ∧ u.cell? ⟨w.heap.size, 3, none⟩ = some (.slice a.v.bao x.s.bs.length a.v.bc) ∧ u.cell? ⟨w.heap.size, 4, none⟩ = some (.slice a.lo x.L.length a.lc) ∧ u.cell? ⟨w.heap.size, 5, none⟩ = some (.int .i64 x.al) ∧ u.cell? ⟨w.heap.size, 6, none⟩ = some (.int .i64 x.th) ∧ u.cell? ⟨w.heap.size, 7, none⟩ = some (.slice a.bo x.B.length a.bc) ∧ u.cell? ⟨w.heap.size, 8, none⟩ = some (.int .i64 x.dn) ∧ u.cell? ⟨w.heap.size, 9, none⟩ = some (.int .i64 x.day) ∧ u.cell? ⟨w.heap.size, 10, none⟩ = some (.int .i64 x.lvs) ∧ u.cell? ⟨w.heap.size, 11, none⟩ = some (.slice a.ao x.bks.length a.cap) ∧ u.cell? ⟨w.heap.size, 12, none⟩ = some (.bool x.cl) ∧ u.cell? ⟨w4.heap.size + 1, i * 13, none⟩ = some (.int .i64 y.s.legs) ∧ u.cell? ⟨w4.heap.size + 1, i * 13 + 1, none⟩ = some (.int .i64 y.s.souls) ∧ u.cell? ⟨w4.heap.size + 1, i * 13 + 2, none⟩ = some (.slice b.v.cao y.s.cs.length b.v.cc) ∧ u.cell? ⟨w4.heap.size + 1, i * 13 + 3, none⟩ = some (.slice b.v.bao y.s.bs.length b.v.bc) ∧ u.cell? ⟨w4.heap.size + 1, i * 13 + 4, none⟩ = some (.slice b.lo y.L.length b.lc) ∧ u.cell? ⟨w4.heap.size + 1, i * 13 + 5, none⟩ = some (.int .i64 y.al) ∧ u.cell? ⟨w4.heap.size + 1, i * 13 + 6, none⟩ = some (.int .i64 y.th) ∧ u.cell? ⟨w4.heap.size + 1, i * 13 + 7, none⟩ = some (.slice b.bo y.B.length b.bc) ∧ u.cell? ⟨w4.heap.size + 1, i * 13 + 8, none⟩ = some (.int .i64 y.dn) ∧ u.cell? ⟨w4.heap.size + 1, i * 13 + 9, none⟩ = some (.int .i64 y.day) ∧ u.cell? ⟨w4.heap.size + 1, i * 13 + 10, none⟩ = some (.int .i64 y.lvs) ∧ u.cell? ⟨w4.heap.size + 1, i * 13 + 11, none⟩ = some (.slice b.ao y.bks.length b.cap) ∧ u.cell? ⟨w4.heap.size + 1, i * 13 + 12, none⟩ = some (.bool y.cl)) { wr with drawn := wr.drawn + 1 } := ⟨cellIn (dr _) d0, cellIn (dr _) d1, cellIn (dr _) d2, cellIn (dr _) d3, cellIn (dr _) d4, cellIn (dr _) d5, cellIn (dr _) d6, cellIn (dr _) d7, cellIn (dr _) d8, cellIn (dr _) d9, cellIn (dr _) d10, cellIn (dr _) d11, cellIn (dr _) d12, cellIn (dr _) e0, cellIn (dr _) e1, cellIn (dr _) e2, cellIn (dr _) e3, cellIn (dr _) e4, cellIn (dr _) e5, cellIn (dr _) e6, cellIn (dr _) e7, cellIn (dr _) e8, cellIn (dr _) e9, cellIn (dr _) e10, cellIn (dr _) e11, cellIn (dr _) e12⟩
    refine wpAnyB_put0 (i := 0) (d := (some 80)) (v := ?_) hset rfl rfl (by kernel_rfl) (by kernel_rfl) (by kernel_rfl) (by decide) (fun _ _ _ h => h) (Or.inl ⟨by rfl, ?_⟩) (fun _ => hS) (fun hset => ?_)
    rotate_left
    · (intro w; go_simp; try with_reducible rfl)
    simp only [Act.put, List.setIfInBounds_toArray, List.set_cons_zero, List.set_cons_succ, List.getElem_toArray, List.getElem_cons_succ, List.getElem_cons_zero]
    refine wpAnyB_put0 (i := 1) (d := (some 81)) (v := ?_) hset rfl rfl (by kernel_rfl) (by kernel_rfl) (by kernel_rfl) (by decide) (fun _ _ _ h => h) (Or.inl ⟨by rfl, ?_⟩) (fun _ => hS) (fun hset => ?_)
    rotate_left
    · (intro w; go_simp; try with_reducible rfl)
    simp only [Act.put, List.setIfInBounds_toArray, List.set_cons_zero, List.set_cons_succ, List.getElem_toArray, List.getElem_cons_succ, List.getElem_cons_zero]
    refine wpAnyB_put0 (i := 2) (d := (some 82)) (v := ?_) hset rfl rfl (by kernel_rfl) (by kernel_rfl) (by kernel_rfl) (by decide) (fun _ _ _ h => h) (Or.inl ⟨by rfl, ?_⟩) (fun _ => hS) (fun hset => ?_)
    rotate_left
    · (intro w; go_simp; try with_reducible rfl)
    simp only [Act.put, List.setIfInBounds_toArray, List.set_cons_zero, List.set_cons_succ, List.getElem_toArray, List.getElem_cons_succ, List.getElem_cons_zero]
    refine wpAnyB_put (i := 3) (n := 40) (d := (some 83)) (v := ?_) hset rfl rfl (by kernel_rfl) (by kernel_rfl) (by kernel_rfl) (by kernel_rfl) (by decide) (fun _ _ _ h => h) (Or.inl ⟨by rfl, ?_⟩) hS (fun hset => ?_)
    rotate_left
    · (intro w hSw; (try dsimp only at hSw); go_simp; try with_reducible rfl)
    simp only [Act.put, List.setIfInBounds_toArray, List.set_cons_zero, List.set_cons_succ, List.getElem_toArray, List.getElem_cons_succ, List.getElem_cons_zero]
    refine wpAnyB_steps (rs := [4]) (by kernel_rfl) (by simp) ?_
    refine StepsB.ahead rfl hset (by kernel_rfl) (fun hset K hK => ?_) StepsB.nil
    simp only [List.getElem_toArray, List.getElem_cons_succ, List.getElem_cons_zero]
    go_simp
    refine (stockCheck_any y b _ (HA.out.below (dr _))).mono ?_
    rintro e w7 ⟨q, rfl, hq, hb7'⟩
    obtain rfl := SailE.one HD.out.right hq
    have hb7 : Below wr.heap.size wr w7 := bvia (dr _) hb7'
    refine hK.out _ _ ?_ (fun hS => ?_)
    · exact ⟨cellIn hb7 d0, cellIn hb7 d1, cellIn hb7 d2, cellIn hb7 d3, cellIn hb7 d4, cellIn hb7 d5, cellIn hb7 d6, cellIn hb7 d7, cellIn hb7 d8, cellIn hb7 d9, cellIn hb7 d10, cellIn hb7 d11, cellIn hb7 d12, cellIn hb7 e0, cellIn hb7 e1, cellIn hb7 e2, cellIn hb7 e3, cellIn hb7 e4, cellIn hb7 e5, cellIn hb7 e6, cellIn hb7 e7, cellIn hb7 e8, cellIn hb7 e9, cellIn hb7 e10, cellIn hb7 e11, cellIn hb7 e12⟩
    clear hK K
    try simp only [Act.put, List.setIfInBounds_toArray, List.set_cons_zero, List.set_cons_succ, List.getElem_toArray, List.getElem_cons_succ, List.getElem_cons_zero]
    refine wpAnyB_put0 (i := 5) (d := (some 85)) (v := ?_) hset rfl rfl (by kernel_rfl) (by kernel_rfl) (by kernel_rfl) (by decide) (fun _ _ _ h => h) (Or.inl ⟨by rfl, ?_⟩) (fun _ => hS) (fun hset => ?_)
    rotate_left
    · (intro w; go_simp; try with_reducible rfl)
    simp only [Act.put, List.setIfInBounds_toArray, List.set_cons_zero, List.set_cons_succ, List.getElem_toArray, List.getElem_cons_succ, List.getElem_cons_zero]
    refine wpAnyB_put0 (i := 6) (d := (some 86)) (v := ?_) hset rfl rfl (by kernel_rfl) (by kernel_rfl) (by kernel_rfl) (by decide) (fun _ _ _ h => h) (Or.inl ⟨by rfl, ?_⟩) (fun _ => hS) (fun hset => ?_)
    rotate_left
    · (intro w; go_simp; try with_reducible rfl)
    simp only [Act.put, List.setIfInBounds_toArray, List.set_cons_zero, List.set_cons_succ, List.getElem_toArray, List.getElem_cons_succ, List.getElem_cons_zero]
    refine wpAnyB_put0 (i := 7) (d := (some 87)) (v := ?_) hset rfl rfl (by kernel_rfl) (by kernel_rfl) (by kernel_rfl) (by decide) (fun _ _ _ h => h) (Or.inl ⟨by rfl, ?_⟩) (fun _ => hS) (fun hset => ?_)
    rotate_left
    · (intro w; go_simp; try with_reducible rfl)
    simp only [Act.put, List.setIfInBounds_toArray, List.set_cons_zero, List.set_cons_succ, List.getElem_toArray, List.getElem_cons_succ, List.getElem_cons_zero]
    refine wpAnyB_put0 (i := 8) (d := (some 88)) (v := ?_) hset rfl rfl (by kernel_rfl) (by kernel_rfl) (by kernel_rfl) (by decide) (fun _ _ _ h => h) (Or.inl ⟨by rfl, ?_⟩) (fun _ => hS) (fun hset => ?_)
    rotate_left
    · (intro w; go_simp; try with_reducible rfl)
    simp only [Act.put, List.setIfInBounds_toArray, List.set_cons_zero, List.set_cons_succ, List.getElem_toArray, List.getElem_cons_succ, List.getElem_cons_zero]
    refine wpAnyB_put0 (i := 9) (d := (some 89)) (v := ?_) hset rfl rfl (by kernel_rfl) (by kernel_rfl) (by kernel_rfl) (by decide) (fun _ _ _ h => h) (Or.inl ⟨by rfl, ?_⟩) (fun _ => hS) (fun hset => ?_)
    rotate_left
    · (intro w; go_simp; try with_reducible rfl)
    simp only [Act.put, List.setIfInBounds_toArray, List.set_cons_zero, List.set_cons_succ, List.getElem_toArray, List.getElem_cons_succ, List.getElem_cons_zero]
    refine wpAnyB_put0 (i := 10) (d := (some 90)) (v := ?_) hset rfl rfl (by kernel_rfl) (by kernel_rfl) (by kernel_rfl) (by decide) (fun _ _ _ h => h) (Or.inl ⟨by rfl, ?_⟩) (fun _ => hS) (fun hset => ?_)
    rotate_left
    · (intro w; go_simp; try with_reducible rfl)
    simp only [Act.put, List.setIfInBounds_toArray, List.set_cons_zero, List.set_cons_succ, List.getElem_toArray, List.getElem_cons_succ, List.getElem_cons_zero]
    refine wpAnyB_put (i := 11) (n := 40) (d := (some 91)) (v := ?_) hset rfl rfl (by kernel_rfl) (by kernel_rfl) (by kernel_rfl) (by kernel_rfl) (by decide) (fun _ _ _ h => h) (Or.inl ⟨by rfl, ?_⟩) hS (fun hset => ?_)
    rotate_left
    · (intro w hSw; (try dsimp only at hSw); go_simp; try with_reducible rfl)
    simp only [Act.put, List.setIfInBounds_toArray, List.set_cons_zero, List.set_cons_succ, List.getElem_toArray, List.getElem_cons_succ, List.getElem_cons_zero]
    refine wpAnyB_put0 (i := 12) (d := (some 92)) (v := ?_) hset rfl rfl (by kernel_rfl) (by kernel_rfl) (by kernel_rfl) (by decide) (fun _ _ _ h => h) (Or.inl ⟨by rfl, ?_⟩) (fun _ => hS) (fun hset => ?_)
    rotate_left
    · (intro w; go_simp; try with_reducible rfl)
    simp only [Act.put, List.setIfInBounds_toArray, List.set_cons_zero, List.set_cons_succ, List.getElem_toArray, List.getElem_cons_succ, List.getElem_cons_zero]
    refine wpAnyB_put0 (i := 13) (d := (some 93)) (v := ?_) hset rfl rfl (by kernel_rfl) (by kernel_rfl) (by kernel_rfl) (by decide) (fun _ _ _ h => h) (Or.inl ⟨by rfl, ?_⟩) (fun _ => hS) (fun hset => ?_)
    rotate_left
    · (intro w; go_simp; try with_reducible rfl)
    simp only [Act.put, List.setIfInBounds_toArray, List.set_cons_zero, List.set_cons_succ, List.getElem_toArray, List.getElem_cons_succ, List.getElem_cons_zero]
    refine wpAnyB_put (i := 14) (n := 40) (d := (some 94)) (v := ?_) hset rfl rfl (by kernel_rfl) (by kernel_rfl) (by kernel_rfl) (by kernel_rfl) (by decide) (fun _ _ _ h => h) (Or.inl ⟨by rfl, ?_⟩) hS (fun hset => ?_)
    rotate_left
    · (intro w hSw; (try dsimp only at hSw); go_simp; try with_reducible rfl)
    simp only [Act.put, List.setIfInBounds_toArray, List.set_cons_zero, List.set_cons_succ, List.getElem_toArray, List.getElem_cons_succ, List.getElem_cons_zero]
    refine wpAnyB_put0 (i := 15) (d := (some 95)) (v := ?_) hset rfl rfl (by kernel_rfl) (by kernel_rfl) (by kernel_rfl) (by decide) (fun _ _ _ h => h) (Or.inl ⟨by rfl, ?_⟩) (fun _ => hS) (fun hset => ?_)
    rotate_left
    · (intro w; go_simp; try with_reducible rfl)
    simp only [Act.put, List.setIfInBounds_toArray, List.set_cons_zero, List.set_cons_succ, List.getElem_toArray, List.getElem_cons_succ, List.getElem_cons_zero]
    refine wpAnyB_put0 (i := 16) (d := (some 96)) (v := ?_) hset rfl rfl (by kernel_rfl) (by kernel_rfl) (by kernel_rfl) (by decide) (fun _ _ _ h => h) (Or.inl ⟨by rfl, ?_⟩) (fun _ => hS) (fun hset => ?_)
    rotate_left
    · (intro w; go_simp; try with_reducible rfl)
    simp only [Act.put, List.setIfInBounds_toArray, List.set_cons_zero, List.set_cons_succ, List.getElem_toArray, List.getElem_cons_succ, List.getElem_cons_zero]
    refine wpAnyB_put0 (i := 17) (d := (some 97)) (v := ?_) hset rfl rfl (by kernel_rfl) (by kernel_rfl) (by kernel_rfl) (by decide) (fun _ _ _ h => h) (Or.inl ⟨by rfl, ?_⟩) (fun _ => hS) (fun hset => ?_)
    rotate_left
    · (intro w; go_simp; try with_reducible rfl)
    simp only [Act.put, List.setIfInBounds_toArray, List.set_cons_zero, List.set_cons_succ, List.getElem_toArray, List.getElem_cons_succ, List.getElem_cons_zero]
    refine wpAnyB_put0 (i := 18) (d := (some 98)) (v := ?_) hset rfl rfl (by kernel_rfl) (by kernel_rfl) (by kernel_rfl) (by decide) (fun _ _ _ h => h) (Or.inl ⟨by rfl, ?_⟩) (fun _ => hS) (fun hset => ?_)
    rotate_left
    · (intro w; go_simp; try with_reducible rfl)
    simp only [Act.put, List.setIfInBounds_toArray, List.set_cons_zero, List.set_cons_succ, List.getElem_toArray, List.getElem_cons_succ, List.getElem_cons_zero]
    refine wpAnyB_put (i := 19) (n := 40) (d := (some 99)) (v := ?_) hset rfl rfl (by kernel_rfl) (by kernel_rfl) (by kernel_rfl) (by kernel_rfl) (by decide) (fun _ _ _ h => h) (Or.inl ⟨by rfl, ?_⟩) hS (fun hset => ?_)
    rotate_left
    · (intro w hSw; (try dsimp only at hSw); go_simp; try with_reducible rfl)
    simp only [Act.put, List.setIfInBounds_toArray, List.set_cons_zero, List.set_cons_succ, List.getElem_toArray, List.getElem_cons_succ, List.getElem_cons_zero]
    refine wpAnyB_put0 (i := 20) (d := (some 100)) (v := ?_) hset rfl rfl (by kernel_rfl) (by kernel_rfl) (by kernel_rfl) (by decide) (fun _ _ _ h => h) (Or.inl ⟨by rfl, ?_⟩) (fun _ => hS) (fun hset => ?_)
    rotate_left
    · (intro w; go_simp; try with_reducible rfl)
    simp only [Act.put, List.setIfInBounds_toArray, List.set_cons_zero, List.set_cons_succ, List.getElem_toArray, List.getElem_cons_succ, List.getElem_cons_zero]
    refine wpAnyB_put0 (i := 21) (d := (some 101)) (v := ?_) hset rfl rfl (by kernel_rfl) (by kernel_rfl) (by kernel_rfl) (by decide) (fun _ _ _ h => h) (Or.inl ⟨by rfl, ?_⟩) (fun _ => hS) (fun hset => ?_)
    rotate_left
    · (intro w; go_simp; try with_reducible rfl)
    simp only [Act.put, List.setIfInBounds_toArray, List.set_cons_zero, List.set_cons_succ, List.getElem_toArray, List.getElem_cons_succ, List.getElem_cons_zero]
    refine wpAnyB_put0 (i := 22) (d := (some 102)) (v := ?_) hset rfl rfl (by kernel_rfl) (by kernel_rfl) (by kernel_rfl) (by decide) (fun _ _ _ h => h) (Or.inl ⟨by rfl, ?_⟩) (fun _ => hS) (fun hset => ?_)
    rotate_left
    · (intro w; go_simp; try with_reducible rfl)
    simp only [Act.put, List.setIfInBounds_toArray, List.set_cons_zero, List.set_cons_succ, List.getElem_toArray, List.getElem_cons_succ, List.getElem_cons_zero]
    refine wpAnyB_put (i := 23) (n := 40) (d := (some 103)) (v := ?_) hset rfl rfl (by kernel_rfl) (by kernel_rfl) (by kernel_rfl) (by kernel_rfl) (by decide) (fun _ _ _ h => h) (Or.inl ⟨by rfl, ?_⟩) hS (fun hset => ?_)
    rotate_left
    · (intro w hSw; (try dsimp only at hSw); go_simp; try with_reducible rfl)
    simp only [Act.put, List.setIfInBounds_toArray, List.set_cons_zero, List.set_cons_succ, List.getElem_toArray, List.getElem_cons_succ, List.getElem_cons_zero]
    refine wpAnyB_put0 (i := 24) (d := (some 104)) (v := ?_) hset rfl rfl (by kernel_rfl) (by kernel_rfl) (by kernel_rfl) (by decide) (fun _ _ _ h => h) (Or.inl ⟨by rfl, ?_⟩) (fun _ => hS) (fun hset => ?_)
    rotate_left
    · (intro w; go_simp; try with_reducible rfl)
    simp only [Act.put, List.setIfInBounds_toArray, List.set_cons_zero, List.set_cons_succ, List.getElem_toArray, List.getElem_cons_succ, List.getElem_cons_zero]
    refine wpAnyB_steps (rs := [25]) (by kernel_rfl) (by simp) ?_
    refine StepsB.ahead rfl hset (by kernel_rfl) (fun hset K hK => ?_) StepsB.nil
    simp only [List.getElem_toArray, List.getElem_cons_succ, List.getElem_cons_zero]
    go_simp
    refine (HST.out w7 ((HS.out.below HW.out).below hb7) (HA.out.below hb7)).mono ?_
    rintro e w8 ⟨rfl, hb8'⟩
    have hb8 : Below wr.heap.size wr w8 := bvia hb7 hb8'
    refine hK.out _ _ ?_ (fun hS => ?_)
    · exact ⟨cellIn hb8 d0, cellIn hb8 d1, cellIn hb8 d2, cellIn hb8 d3, cellIn hb8 d4, cellIn hb8 d5, cellIn hb8 d6, cellIn hb8 d7, cellIn hb8 d8, cellIn hb8 d9, cellIn hb8 d10, cellIn hb8 d11, cellIn hb8 d12, cellIn hb8 e0, cellIn hb8 e1, cellIn hb8 e2, cellIn hb8 e3, cellIn hb8 e4, cellIn hb8 e5, cellIn hb8 e6, cellIn hb8 e7, cellIn hb8 e8, cellIn hb8 e9, cellIn hb8 e10, cellIn hb8 e11, cellIn hb8 e12⟩
    clear hK K
    try simp only [Act.put, List.setIfInBounds_toArray, List.set_cons_zero, List.set_cons_succ, List.getElem_toArray, List.getElem_cons_succ, List.getElem_cons_zero]
    refine wpAnyB_put0 (i := 26) (d := (some 106)) (v := ?_) hset rfl rfl (by kernel_rfl) (by kernel_rfl) (by kernel_rfl) (by decide) (fun _ _ _ h => h) (Or.inl ⟨by rfl, ?_⟩) (fun _ => hS) (fun hset => ?_)
    rotate_left
    · (intro w; go_simp; try with_reducible rfl)
    simp only [Act.put, List.setIfInBounds_toArray, List.set_cons_zero, List.set_cons_succ, List.getElem_toArray, List.getElem_cons_succ, List.getElem_cons_zero]
    refine wpAnyB_steps (rs := [27]) (by kernel_rfl) (by simp) ?_
    refine StepsB.behind rfl hset (by kernel_rfl) (by kernel_rfl) (fun hset K hK => ?_) StepsB.nil
    simp only [List.getElem_toArray, List.getElem_cons_succ, List.getElem_cons_zero]
    go_simp
    refine hK.out _ _ ?_
    clear hK K
    try simp only [Act.put, List.setIfInBounds_toArray, List.set_cons_zero, List.set_cons_succ, List.getElem_toArray, List.getElem_cons_succ, List.getElem_cons_zero]
    all_goals refine wpAnyB_done (by kernel_rfl) ?_ _
    replace HW := rW HW hb8
    replace HX := rA HX hb8
    replace HL := rL HL hb8
    clear d0 d1 d2 d3 d4 d5 d6 d7 d8 d9 d10 d11 d12 e0 e1 e2 e3 e4 e5 e6 e7 e8 e9 e10 e11 e12 hlb hb7 hb7' hb8 hb8' hq hset hS g0
    go_wp2
    go_roundg (4 - (i + 1))
    case measure => omega
    case rel => exact ⟨i + 1, by omega, rfl, by go_num, HW, HX, HL⟩

end Go.Proofs.YtlamhfbdeinkkaeGreat.St
