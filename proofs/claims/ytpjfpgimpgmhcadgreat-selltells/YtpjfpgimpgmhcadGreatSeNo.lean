/- The walk of SellTells. -/
import Derived.Test.YtpjfpgimpgmhcadGreatSeGo
import Derived.Test.YtpjfpgimpgmhcadGreatSeJo
import Derived.Test.YtpjfpgimpgmhcadGreatSeLo
import Derived.Test.YtpjfpgimpgmhcadGreatSeMo
import Derived.Test.YtpjfpgimpgmhcadGreatSeKo
namespace Go.Proofs.YtpjfpgimpgmhcadGreat.St
open Go.RowKit Bk
set_option linter.unusedSimpArgs false
set_option linter.unusedVariables false
set_option maxRecDepth 10000

theorem rA {w w' : World} {g : Nat} {c : Array Value} (h : Aside (RowIs w g c)) (hb : Below w.heap.size w w') : Aside (RowIs w' g c) := h.out.below hb
theorem rS {w w' : World} {x : Sail} {a : SailA} (h : Aside (SailAt w x a)) (hb : Below w.heap.size w w') : Aside (SailAt w' x a) := h.out.below hb
theorem rI {w w' : World} {ao : Option Addr} {cap : Nat} {l : List Int} (h : Aside (IntsAt w ao cap l)) (hb : Below w.heap.size w w') : Aside (IntsAt w' ao cap l) := SlAt.below RInt.mono h.out hb
theorem rW {w0 w w' : World} (h : Aside (Below w0.heap.size w0 w)) (hb : Below w.heap.size w w') : Aside (Below w0.heap.size w0 w') := bvia h.out hb
theorem sells_bad {k : Int} {x : Sail} {b : Bkg} {v r : Int} {y : Sail} (hv : P.SailE x v) (hn : ¬ v = 0) (h : P.SellS k x b r y) : r = v ∧ y = P.zeroS := SellS.one h (.inl ⟨v, hv, hn, rfl, rfl⟩)
theorem offs_bad {x : Sail} {g : Int} {lv : Bool} {f t v r : Int} {l : List Int} (hv : P.SailE x v) (hn : ¬ v = 0) (h : P.OffS x g lv f t r l) : r = v ∧ l = [] := OffS.one h (.inl ⟨v, hv, hn, rfl, rfl⟩)
theorem sells_good {k : Int} {x : Sail} {b : Bkg} {r r' : Int} {y y' : Sail} (hE : P.SailE x 0) (h : P.SellS k x b r y) (h' : P.Sells k x b r' y') : r = r' ∧ y = y' := SellS.one h (.inr ⟨hE, h'⟩)
theorem offs_good {x : Sail} {g : Int} {lv : Bool} {f t r : Int} {l : List Int} (hE : P.SailE x 0) (h : P.OffS x g lv f t r l) : P.Offs x g lv f t r l := by
  rcases h with ⟨q, h1, h2, _, _⟩ | ⟨_, h⟩
  · exact absurd (SailE.one h1 hE) h2
  · exact h
theorem offs_is {x : Sail} {g : Int} {lv : Bool} {f t r c : Int} {l : List Int} (h : P.Offs x g lv f t r l) (hc : P.offE x g f t = c) (hn : ¬ c = 0) : r = c ∧ l = [] := by
  obtain ⟨h1, h2, _⟩ := h
  have e : r = c := by rw [h1, hc]
  exact ⟨e, h2 (by rw [e]; exact hn)⟩
theorem offs_list {x : Sail} {g : Int} {lv : Bool} {f t r n : Int} {l l' : List Int} (h : P.Offs x g lv f t r l) (hc : P.offE x g f t = 0) (hl : LeastIs x.bks n) (ho : OffIs x (P.who n g lv f t) x.s.bs.length l') : r = 0 ∧ l = l' :=
  Offs.one h (r' := 0) (l' := l') ⟨hc.symm, fun h => absurd rfl h, fun _ => ⟨n, hl, ho⟩⟩
theorem tB {n N : Nat} {w w' : World} {y : Sail} {a : SailA} (h : Aside (SailTw n N w y a)) (hb : Below w.heap.size w w') (hn : n ≤ w.heap.size) : Aside (SailTw n N w' y a) := h.out.on (Twixt.below hb hn)
theorem tG {n N g : Nat} {w w' : World} {y : Sail} {a : SailA} (h : Aside (SailTw n N w y a)) (hg : w.grownBy w' (some g)) (hn : n ≤ w.heap.size) (h1 : n ≤ g) (h2 : g < N) : Aside (SailTw n N w' y a) := h.out.on (Twixt.gr hg hn h1 h2)
theorem gA {w w' : World} {g r : Nat} {c : Array Value} (h : Aside (RowIs w g c)) (hg : w.grownBy w' (some r)) (hne : g ≠ r) : Aside (RowIs w' g c) := h.out.gr hg (by simp [hne])
theorem gW {n r : Nat} {w0 w w' : World} (h : Aside (Below n w0 w)) (hn : n ≤ w.heap.size) (hg : w.grownBy w' (some r)) (hr : n ≤ r) : Aside (Below n w0 w') := below_gr h.out hn hg hr
theorem SellS.zero {k : Int} {x : Sail} {b : Bkg} {r : Int} {y : Sail} (h : P.SellS k x b r y) : ¬ r = 0 → y = P.zeroS := fun hr => SellS.err h hr

theorem sail_total' (x : Sail) : ∃ r, P.SailE x r := by
  by_cases h : P.pre x = 0
  · cases ht : P.twice x
    · cases hm : P.many x
      · obtain ⟨c, hc⟩ := max_ex (P.pids x.bks).length (fun m hm => isM_le pedg_left hm)
        exact ⟨_, .inr ⟨h, _, .inr (.inr ⟨ht, hm, c, hc, rfl⟩), rfl⟩⟩
      · exact ⟨_, .inr ⟨h, _, .inr (.inl ⟨ht, hm, rfl⟩), rfl⟩⟩
    · exact ⟨_, .inr ⟨h, _, .inl ⟨ht, rfl⟩, rfl⟩⟩
  · exact ⟨_, .inl ⟨h, rfl⟩⟩

set_option maxHeartbeats 4000000 in
theorem sailingIs_any (e : Int) (y z : Sail) (a a' : SailA) (w : World) (hy : SailAt w y a) (hz : e = 0 → z = y ∧ SailAt w z a') (hn : ¬ e = 0 → y = P.zeroS) :
    Calls Tryz.prog 34 #[V.sail y a, .int .i64 e, .int .i64 e, V.sail z a'] w fun r w' => r = .returned (.bool true) ∧ Below w.heap.size w w' := by
  have hb0 : Below w.heap.size w (W.sail (W.sail w y a) z a') := bvia (sail_below w y a) (sail_below _ z a')
  have HX0 : Aside (SRow (W.sail (W.sail w y a) z a') w.heap.size y a) := (RowIs.new w _ _ : SRow (W.sail w y a) w.heap.size y a).below (sail_below _ z a')
  have HY0 : Aside (SRow (W.sail (W.sail w y a) z a') (w.heap.size + 1) z a') := by
    have := RowIs.new (W.sail w y a) (C.sail z a') 32
    rwa [World.size_alloc] at this
  have HS : Aside (SailAt w y a) := hy
  clear hy
  cases he : (e != 0)
  · obtain rfl : e = 0 := by simpa using he
    obtain ⟨rfl, hz2⟩ := hz rfl
    have HZ : Aside (SailAt w z a') := hz2
    clear hz hz2 hn he
    obtain ⟨d0, d1, d2, d3, d4, d5, d6, d7, d8, d9, d10, d11, d12⟩ := SRow.box HX0.out
    obtain ⟨e0, e1, e2, e3, e4, e5, e6, e7, e8, e9, e10, e11, e12⟩ := SRow.box HY0.out
    go_enter Tryz.func34, Tryz.ntmps34
    go_wp2_with fail
    refine (sameSailing_eq z a a' _ (HS.out.below hb0) (HZ.out.below hb0)).mono ?_
    rintro r w1 ⟨rfl, hb1⟩
    have hB1 := bvia hb0 hb1
    go_wp2
    go_ret
    exact ⟨rfl, hB1⟩
  · obtain rfl := hn (by simpa using he)
    have HN : Aside ((e != 0) = true) := he
    clear hz hn
    obtain ⟨d0, d1, d2, d3, d4, d5, d6, d7, d8, d9, d10, d11, d12⟩ := SRow.box HX0.out
    go_enter Tryz.func34, Tryz.ntmps34
    go_wp2_with ((with_reducible refine wpList_stO (w.heap.size + 1) (C.sail z a') (C.sail P.zeroS A.zeroS) ?_ ?_ ?_ HY0.out ?_ ?_ ?_); exact Tryz.sizeSail; rfl; rfl; rfl; exact sail_one _ _; intro w9 hr9 hg9; have HX9 : SRow w9 w.heap.size P.zeroS a := HX0.out.gr hg9 (by simp); obtain ⟨q0, q1, q2, q3, q4, q5, q6, q7, q8, q9, q10, q11, q12⟩ := SRow.box HX9; obtain ⟨e0, e1, e2, e3, e4, e5, e6, e7, e8, e9, e10, e11, e12⟩ := SRow.box hr9; have hb9 : Below w.heap.size w w9 := below_gr hb0 hb0.size hg9 (by omega); clear d0 d1 d2 d3 d4 d5 d6 d7 d8 d9 d10 d11 d12)
    refine (sameSailing_eq P.zeroS a A.zeroS _ (HS.out.below hb9) (zero_at _)).mono ?_
    rintro r w1 ⟨rfl, hb1⟩
    have hB1 := bvia hb9 hb1
    go_wp2
    go_ret
    exact ⟨rfl, hB1⟩

end Go.Proofs.YtpjfpgimpgmhcadGreat.St
namespace Go.Proofs.YtpjfpgimpgmhcadGreat.St
open Go.RowKit Bk
set_option linter.unusedSimpArgs false
set_option linter.unusedVariables false
set_option maxRecDepth 10000

set_option maxHeartbeats 16000000 in
theorem sellTells_goodA (x : Sail) (a : SailA) (b : Bkg) (fo : Option Addr) (fc : Nat) (g : Int) (lv : Bool) (f t : Int) (w : World) (hs : SailAt w x a) (hf : Fo.EntsAt w fo fc b.fol) (HE : Aside (P.SailE x 0)) (hg1 : g < 1) :
    Calls Tryz.prog 6 #[V.sail x a, V.bk b fo fc, .int .i64 g, .bool lv, .agg #[.int .i64 f, .int .i64 t]] w fun e w' => e = .returned (.bool true) ∧ Below w.heap.size w w' := by
  have HS : Aside (SailAt w x a) := hs
  have HF : Aside (Fo.EntsAt w fo fc b.fol) := hf
  have HW : Aside (Below w.heap.size w (W.sp2 (W.bk (W.sail w x a) b fo fc) f t)) := bvia (sail_below w x a) (bvia (bk_below _ b fo fc) (by go_grown))
  have HX : Aside (SRow (W.sp2 (W.bk (W.sail w x a) b fo fc) f t) w.heap.size x a) := ((RowIs.new w _ _ : SRow (W.sail w x a) w.heap.size x a).below (bk_below _ b fo fc)).below (by go_grown)
  have HB : Aside (RowIs (W.sp2 (W.bk (W.sail w x a) b fo fc) f t) (w.heap.size + 1) (C.bk b fo fc)) := by
    have := (RowIs.new (W.sail w x a) (C.bk b fo fc) 42).below (w' := W.sp2 (W.bk (W.sail w x a) b fo fc) f t) (by go_grown)
    rwa [World.size_alloc] at this
  have HP : Aside (RowIs (W.sp2 (W.bk (W.sail w x a) b fo fc) f t) (w.heap.size + 1 + 1) #[.int .i64 f, .int .i64 t]) := by
    have := RowIs.new (W.bk (W.sail w x a) b fo fc) #[.int .i64 f, .int .i64 t] 39
    rwa [World.size_alloc, World.size_alloc] at this
  clear hs hf
  obtain ⟨d0, d1, d2, d3, d4, d5, d6, d7, d8, d9, d10, d11, d12⟩ := SRow.box HX.out
  obtain ⟨z0, z1, z2, z3, z4, z5, z6, z7, z8, z9, z10⟩ := HB.out.bbox
  have p0 := HP.out.cell 0
  have p1 := HP.out.cell 1
  go_enter Tryz.func6, Tryz.ntmps6
  clear d0 d1 d2 d3 d4 d5 d6 d7 d8 d9 d10 d11 d12 z0 z1 z2 z3 z4 z5 z6 z7 z8 z9 z10 p0 p1
  obtain ⟨d0, d1, d2, d3, d4, d5, d6, d7, d8, d9, d10, d11, d12⟩ := SRow.box HX.out
  obtain ⟨z0, z1, z2, z3, z4, z5, z6, z7, z8, z9, z10⟩ := HB.out.bbox
  have p0 := HP.out.cell 0
  have p1 := HP.out.cell 1
  go_wp2_with fail
  refine (sellNamed_any x a b fo fc _ (HS.out.below HW.out) (SlAt.below Fo.REnt.mono HF.out HW.out)).mono ?_
  rintro e w1 ⟨r1, y1, a1, rfl, hS1, hU1, hb1⟩
  replace HW := rW HW hb1
  replace HX := rA HX hb1
  replace HB := rA HB hb1
  replace HP := rA HP hb1
  clear d0 d1 d2 d3 d4 d5 d6 d7 d8 d9 d10 d11 d12 z0 z1 z2 z3 z4 z5 z6 z7 z8 z9 z10 p0 p1
  have HS1 : Aside (P.SellS 1 x b r1 y1) := hS1
  have hs1' := sail_below w1 y1 a1
  have HA1 : Aside (SailAt (W.sail w1 y1 a1) y1 a1) := hU1.at.below hs1'
  have HR1 : Aside (SRow (W.sail w1 y1 a1) w1.heap.size y1 a1) := RowIs.new w1 _ _
  replace HW := rW HW hs1'
  replace HX := rA HX hs1'
  replace HB := rA HB hs1'
  replace HP := rA HP hs1'
  clear hS1 hU1 hb1 hs1'
  obtain ⟨d0, d1, d2, d3, d4, d5, d6, d7, d8, d9, d10, d11, d12⟩ := SRow.box HX.out
  obtain ⟨z0, z1, z2, z3, z4, z5, z6, z7, z8, z9, z10⟩ := HB.out.bbox
  have p0 := HP.out.cell 0
  have p1 := HP.out.cell 1
  go_wp2_with fail
  refine (sellPromise_any x a b fo fc _ (HS.out.below HW.out) (SlAt.below Fo.REnt.mono HF.out HW.out)).mono ?_
  rintro e w2 ⟨r2, y2, a2, rfl, hS2, hU2, hb2⟩
  replace HW := rW HW hb2
  replace HX := rA HX hb2
  replace HB := rA HB hb2
  replace HP := rA HP hb2
  replace HA1 := rS HA1 hb2
  replace HR1 := rA HR1 hb2
  clear d0 d1 d2 d3 d4 d5 d6 d7 d8 d9 d10 d11 d12 z0 z1 z2 z3 z4 z5 z6 z7 z8 z9 z10 p0 p1
  have HS2 : Aside (P.SellS 2 x b r2 y2) := hS2
  have hs2' := sail_below w2 y2 a2
  have HA2 : Aside (SailAt (W.sail w2 y2 a2) y2 a2) := hU2.at.below hs2'
  have HR2 : Aside (SRow (W.sail w2 y2 a2) w2.heap.size y2 a2) := RowIs.new w2 _ _
  replace HW := rW HW hs2'
  replace HX := rA HX hs2'
  replace HB := rA HB hs2'
  replace HP := rA HP hs2'
  replace HA1 := rS HA1 hs2'
  replace HR1 := rA HR1 hs2'
  clear hS2 hU2 hb2 hs2'
  obtain ⟨d0, d1, d2, d3, d4, d5, d6, d7, d8, d9, d10, d11, d12⟩ := SRow.box HX.out
  obtain ⟨z0, z1, z2, z3, z4, z5, z6, z7, z8, z9, z10⟩ := HB.out.bbox
  have p0 := HP.out.cell 0
  have p1 := HP.out.cell 1
  go_wp2_with fail
  refine (sellOffers_any x a g lv f t _ (HS.out.below HW.out)).mono ?_
  rintro e w3 ⟨r3, v3, l3, rfl, own3, hO3, hb3⟩
  replace HW := rW HW hb3
  replace HX := rA HX hb3
  replace HB := rA HB hb3
  replace HP := rA HP hb3
  replace HA1 := rS HA1 hb3
  replace HR1 := rA HR1 hb3
  replace HA2 := rS HA2 hb3
  replace HR2 := rA HR2 hb3
  clear d0 d1 d2 d3 d4 d5 d6 d7 d8 d9 d10 d11 d12 z0 z1 z2 z3 z4 z5 z6 z7 z8 z9 z10 p0 p1
  obtain ⟨ao3, cap3, rfl, hl3⟩ := OwnJ.at own3
  have HO3 : Aside (P.OffS x g lv f t r3 l3) := hO3
  have HL3 : Aside (IntsAt w3 ao3 cap3 l3) := hl3
  clear own3 hO3 hl3 hb3
  obtain ⟨d0, d1, d2, d3, d4, d5, d6, d7, d8, d9, d10, d11, d12⟩ := SRow.box HX.out
  obtain ⟨z0, z1, z2, z3, z4, z5, z6, z7, z8, z9, z10⟩ := HB.out.bbox
  have p0 := HP.out.cell 0
  have p1 := HP.out.cell 1
  go_wp2_with fail
  refine (refSail_any x a _ (HS.out.below HW.out)).mono ?_
  rintro e w4 ⟨v4, rfl, hv, hb4⟩
  replace HW := rW HW hb4
  replace HX := rA HX hb4
  replace HB := rA HB hb4
  replace HP := rA HP hb4
  replace HA1 := rS HA1 hb4
  replace HR1 := rA HR1 hb4
  replace HA2 := rS HA2 hb4
  replace HR2 := rA HR2 hb4
  replace HL3 := rI HL3 hb4
  clear d0 d1 d2 d3 d4 d5 d6 d7 d8 d9 d10 d11 d12 z0 z1 z2 z3 z4 z5 z6 z7 z8 z9 z10 p0 p1
  obtain rfl := SailE.one HE.out hv
  clear hv hb4
  have hzb : Below w4.heap.size w4 ((w4.alloc O.zs).alloc O.zs) := bvia (al _ _) (al _ _)
  have HV : Aside (Below w4.heap.size w4 ((w4.alloc O.zs).alloc O.zs)) := hzb
  have hw4 : w.heap.size + 1 + 1 < w4.heap.size := HP.out.lt
  have hr1 : w1.heap.size < w4.heap.size := HR1.out.lt
  have hr2 : w2.heap.size < w4.heap.size := HR2.out.lt
  have HZ1 : Aside (RowIs ((w4.alloc O.zs).alloc O.zs) w4.heap.size C.zs) := (RowIs.new w4 C.zs 32).below (al _ _)
  have HZ2 : Aside (RowIs ((w4.alloc O.zs).alloc O.zs) (w4.heap.size + 1) C.zs) := by
    have := RowIs.new (w4.alloc O.zs) C.zs 32
    rwa [World.size_alloc] at this
  replace HW := rW HW hzb
  replace HX := rA HX hzb
  replace HB := rA HB hzb
  replace HP := rA HP hzb
  replace HR1 := rA HR1 hzb
  replace HR2 := rA HR2 hzb
  clear hzb
  obtain ⟨d0, d1, d2, d3, d4, d5, d6, d7, d8, d9, d10, d11, d12⟩ := SRow.box HX.out
  obtain ⟨z0, z1, z2, z3, z4, z5, z6, z7, z8, z9, z10⟩ := HB.out.bbox
  have p0 := HP.out.cell 0
  have p1 := HP.out.cell 1
  go_wp2_with fail
  refine (sellOf1_ok x a b fo fc w _ HW.out HS.out HE.out (SlAt.below Fo.REnt.mono HF.out HW.out)).mono ?_
  rintro e u1 ⟨q1, z1', b1, rfl, hq1, hz1, hc1⟩
  replace HW := rW HW hc1
  replace HX := rA HX hc1
  replace HB := rA HB hc1
  replace HP := rA HP hc1
  replace HR1 := rA HR1 hc1
  replace HR2 := rA HR2 hc1
  replace HV := rW HV hc1
  replace HZ1 := rA HZ1 hc1
  replace HZ2 := rA HZ2 hc1
  clear d0 d1 d2 d3 d4 d5 d6 d7 d8 d9 d10 d11 d12 z0 z1 z2 z3 z4 z5 z6 z7 z8 z9 z10 p0 p1
  obtain ⟨rfl, rfl⟩ := sells_good HE.out HS1.out hq1
  have HQ1 : Aside (SailTw w.heap.size (w4.heap.size + 1 + 1) u1 y1 b1) := hz1.mono (by first | (simp; done) | (rw [World.size_alloc, World.size_alloc]; omega))
  clear hq1 hz1 hc1
  go_wp2_with ((with_reducible refine wpList_stO (w4.heap.size) C.zs (C.sail y1 b1) ?_ ?_ ?_ HZ1.out ?_ ?_ ?_); exact Tryz.sizeSail; rfl; rfl; rfl; exact sail_one _ _; intro s1 hr1' hg1; have hsz1 : w4.heap.size ≤ u1.heap.size := HV.out.size; replace HW := gW HW (by omega) hg1 (by omega); replace HX := gA HX hg1 (by omega); replace HB := gA HB hg1 (by omega); replace HP := gA HP hg1 (by omega); replace HR1 := gA HR1 hg1 (by omega); replace HR2 := gA HR2 hg1 (by omega); replace HV := gW HV (by omega) hg1 (by omega); replace HZ1 : Aside (SRow s1 (w4.heap.size) y1 b1) := hr1'; replace HZ2 := gA HZ2 hg1 (by omega); replace HQ1 := tG HQ1 hg1 (by omega) (by omega) (by omega); obtain ⟨d0, d1, d2, d3, d4, d5, d6, d7, d8, d9, d10, d11, d12⟩ := SRow.box HX.out; obtain ⟨z0, z1, z2, z3, z4, z5, z6, z7, z8, z9, z10⟩ := HB.out.bbox; have p0 := HP.out.cell 0; have p1 := HP.out.cell 1; clear hr1' hg1 hsz1)
  have HM2 : Aside (w4.heap.size + 1 + 1 ≤ s1.heap.size) := by have := HZ2.out.lt; show _ ≤ _; omega
  refine (sellOf2_ok x a b fo fc w _ HW.out HS.out HE.out (SlAt.below Fo.REnt.mono HF.out HW.out)).mono ?_
  rintro e u2 ⟨q2, z2', b2, rfl, hq2, hz2, hc2⟩
  replace HQ1 := tB HQ1 hc2 (by have := HV.out.size; omega)
  replace HW := rW HW hc2
  replace HX := rA HX hc2
  replace HB := rA HB hc2
  replace HP := rA HP hc2
  replace HR1 := rA HR1 hc2
  replace HR2 := rA HR2 hc2
  replace HV := rW HV hc2
  replace HZ1 := rA HZ1 hc2
  replace HZ2 := rA HZ2 hc2
  obtain ⟨rfl, rfl⟩ := sells_good HE.out HS2.out hq2
  have HQ2 : Aside (SailTw w.heap.size (w4.heap.size + 1 + 1) u2 y2 b2) := hz2.mono HM2.out
  clear d0 d1 d2 d3 d4 d5 d6 d7 d8 d9 d10 d11 d12 z0 z1 z2 z3 z4 z5 z6 z7 z8 z9 z10 p0 p1
  clear hq2 hz2 hc2
  have HOO : Aside (P.Offs x g lv f t r3 l3) := offs_good HE.out HO3.out
  clear HO3
  obtain ⟨e3, rfl⟩ := offs_is HOO.out (off_range (by simp [P.btw]; omega)) (by first | decide | exact HCN.out)
  rw [e3]
  clear e3 HOO
  go_wp2_with ((with_reducible refine wpList_stO (w4.heap.size + 1) C.zs (C.sail y2 b2) ?_ ?_ ?_ HZ2.out ?_ ?_ ?_); exact Tryz.sizeSail; rfl; rfl; rfl; exact sail_one _ _; intro s2 hr2' hg2; have hsz2 : w4.heap.size ≤ u2.heap.size := HV.out.size; replace HW := gW HW (by omega) hg2 (by omega); replace HX := gA HX hg2 (by omega); replace HB := gA HB hg2 (by omega); replace HP := gA HP hg2 (by omega); replace HR1 := gA HR1 hg2 (by omega); replace HR2 := gA HR2 hg2 (by omega); replace HV := gW HV (by omega) hg2 (by omega); replace HZ1 := gA HZ1 hg2 (by omega); replace HZ2 : Aside (SRow s2 (w4.heap.size + 1) y2 b2) := hr2'; replace HQ1 := tG HQ1 hg2 (by omega) (by omega) (by omega); replace HQ2 := tG HQ2 hg2 (by omega) (by omega) (by omega); obtain ⟨d0, d1, d2, d3, d4, d5, d6, d7, d8, d9, d10, d11, d12⟩ := SRow.box HX.out; obtain ⟨z0, z1, z2, z3, z4, z5, z6, z7, z8, z9, z10⟩ := HB.out.bbox; have p0 := HP.out.cell 0; have p1 := HP.out.cell 1; clear hr2' hg2 hsz2)
  refine (sellBegun_any _).mono ?_
  rintro e wb ⟨rfl, hbb⟩
  replace HQ1 := tB HQ1 hbb (by have := HV.out.size; omega)
  replace HQ2 := tB HQ2 hbb (by have := HV.out.size; omega)
  replace HW := rW HW hbb
  replace HX := rA HX hbb
  replace HB := rA HB hbb
  replace HP := rA HP hbb
  replace HR1 := rA HR1 hbb
  replace HR2 := rA HR2 hbb
  replace HV := rW HV hbb
  replace HZ1 := rA HZ1 hbb
  replace HZ2 := rA HZ2 hbb
  clear d0 d1 d2 d3 d4 d5 d6 d7 d8 d9 d10 d11 d12 z0 z1 z2 z3 z4 z5 z6 z7 z8 z9 z10 p0 p1
  clear hbb
  obtain ⟨d0, d1, d2, d3, d4, d5, d6, d7, d8, d9, d10, d11, d12⟩ := SRow.box HR1.out
  obtain ⟨e0, e1, e2, e3, e4, e5, e6, e7, e8, e9, e10, e11, e12⟩ := SRow.box HZ1.out
  go_wp2_with fail
  refine (sailingIs_any r1 y1 y1 a1 b1 _ (HA1.out.below HV.out) (fun _ => ⟨rfl, HQ1.out.at⟩) (SellS.zero HS1.out)).mono ?_
  rintro e wi1 ⟨rfl, hbi1⟩
  replace HQ1 := tB HQ1 hbi1 (by have := HV.out.size; omega)
  replace HQ2 := tB HQ2 hbi1 (by have := HV.out.size; omega)
  replace HW := rW HW hbi1
  replace HX := rA HX hbi1
  replace HB := rA HB hbi1
  replace HP := rA HP hbi1
  replace HR1 := rA HR1 hbi1
  replace HR2 := rA HR2 hbi1
  replace HV := rW HV hbi1
  replace HZ1 := rA HZ1 hbi1
  replace HZ2 := rA HZ2 hbi1
  clear d0 d1 d2 d3 d4 d5 d6 d7 d8 d9 d10 d11 d12 e0 e1 e2 e3 e4 e5 e6 e7 e8 e9 e10 e11 e12 hbi1
  obtain ⟨d0, d1, d2, d3, d4, d5, d6, d7, d8, d9, d10, d11, d12⟩ := SRow.box HR2.out
  obtain ⟨e0, e1, e2, e3, e4, e5, e6, e7, e8, e9, e10, e11, e12⟩ := SRow.box HZ2.out
  go_wp2_with fail
  refine (sailingIs_any r2 y2 y2 a2 b2 _ (HA2.out.below HV.out) (fun _ => ⟨rfl, HQ2.out.at⟩) (SellS.zero HS2.out)).mono ?_
  rintro e wi2 ⟨rfl, hbi2⟩
  replace HQ1 := tB HQ1 hbi2 (by have := HV.out.size; omega)
  replace HQ2 := tB HQ2 hbi2 (by have := HV.out.size; omega)
  replace HW := rW HW hbi2
  replace HX := rA HX hbi2
  replace HB := rA HB hbi2
  replace HP := rA HP hbi2
  replace HR1 := rA HR1 hbi2
  replace HR2 := rA HR2 hbi2
  replace HV := rW HV hbi2
  replace HZ1 := rA HZ1 hbi2
  replace HZ2 := rA HZ2 hbi2
  clear d0 d1 d2 d3 d4 d5 d6 d7 d8 d9 d10 d11 d12 e0 e1 e2 e3 e4 e5 e6 e7 e8 e9 e10 e11 e12 hbi2
  go_wp2_with fail
  refine (Ma.intsAre_any _ _ _ _ ([] : List Int) ([] : List Int) 3 3 _ (SlAt.below RInt.mono HL3.out HV.out) (SlAt.nilOf _)).mono ?_
  rintro e wf ⟨rfl, hbf⟩
  replace HW := rW HW hbf
  rw [show (decide ((3 : Int) = 3) && decide (([] : List Int) = Ma.P.wantI 3 ([] : List Int))) = true by simp [Ma.P.wantI]]
  go_wp2
  go_ret
  exact ⟨rfl, HW.out⟩

set_option maxHeartbeats 16000000 in
theorem sellTells_goodB (x : Sail) (a : SailA) (b : Bkg) (fo : Option Addr) (fc : Nat) (g : Int) (lv : Bool) (f t : Int) (w : World) (hs : SailAt w x a) (hf : Fo.EntsAt w fo fc b.fol) (HE : Aside (P.SailE x 0)) (hg1 : ¬ g < 1) (hg4 : 4 < g) :
    Calls Tryz.prog 6 #[V.sail x a, V.bk b fo fc, .int .i64 g, .bool lv, .agg #[.int .i64 f, .int .i64 t]] w fun e w' => e = .returned (.bool true) ∧ Below w.heap.size w w' := by
  have HS : Aside (SailAt w x a) := hs
  have HF : Aside (Fo.EntsAt w fo fc b.fol) := hf
  have HW : Aside (Below w.heap.size w (W.sp2 (W.bk (W.sail w x a) b fo fc) f t)) := bvia (sail_below w x a) (bvia (bk_below _ b fo fc) (by go_grown))
  have HX : Aside (SRow (W.sp2 (W.bk (W.sail w x a) b fo fc) f t) w.heap.size x a) := ((RowIs.new w _ _ : SRow (W.sail w x a) w.heap.size x a).below (bk_below _ b fo fc)).below (by go_grown)
  have HB : Aside (RowIs (W.sp2 (W.bk (W.sail w x a) b fo fc) f t) (w.heap.size + 1) (C.bk b fo fc)) := by
    have := (RowIs.new (W.sail w x a) (C.bk b fo fc) 42).below (w' := W.sp2 (W.bk (W.sail w x a) b fo fc) f t) (by go_grown)
    rwa [World.size_alloc] at this
  have HP : Aside (RowIs (W.sp2 (W.bk (W.sail w x a) b fo fc) f t) (w.heap.size + 1 + 1) #[.int .i64 f, .int .i64 t]) := by
    have := RowIs.new (W.bk (W.sail w x a) b fo fc) #[.int .i64 f, .int .i64 t] 39
    rwa [World.size_alloc, World.size_alloc] at this
  clear hs hf
  obtain ⟨d0, d1, d2, d3, d4, d5, d6, d7, d8, d9, d10, d11, d12⟩ := SRow.box HX.out
  obtain ⟨z0, z1, z2, z3, z4, z5, z6, z7, z8, z9, z10⟩ := HB.out.bbox
  have p0 := HP.out.cell 0
  have p1 := HP.out.cell 1
  go_enter Tryz.func6, Tryz.ntmps6
  clear d0 d1 d2 d3 d4 d5 d6 d7 d8 d9 d10 d11 d12 z0 z1 z2 z3 z4 z5 z6 z7 z8 z9 z10 p0 p1
  obtain ⟨d0, d1, d2, d3, d4, d5, d6, d7, d8, d9, d10, d11, d12⟩ := SRow.box HX.out
  obtain ⟨z0, z1, z2, z3, z4, z5, z6, z7, z8, z9, z10⟩ := HB.out.bbox
  have p0 := HP.out.cell 0
  have p1 := HP.out.cell 1
  go_wp2_with fail
  refine (sellNamed_any x a b fo fc _ (HS.out.below HW.out) (SlAt.below Fo.REnt.mono HF.out HW.out)).mono ?_
  rintro e w1 ⟨r1, y1, a1, rfl, hS1, hU1, hb1⟩
  replace HW := rW HW hb1
  replace HX := rA HX hb1
  replace HB := rA HB hb1
  replace HP := rA HP hb1
  clear d0 d1 d2 d3 d4 d5 d6 d7 d8 d9 d10 d11 d12 z0 z1 z2 z3 z4 z5 z6 z7 z8 z9 z10 p0 p1
  have HS1 : Aside (P.SellS 1 x b r1 y1) := hS1
  have hs1' := sail_below w1 y1 a1
  have HA1 : Aside (SailAt (W.sail w1 y1 a1) y1 a1) := hU1.at.below hs1'
  have HR1 : Aside (SRow (W.sail w1 y1 a1) w1.heap.size y1 a1) := RowIs.new w1 _ _
  replace HW := rW HW hs1'
  replace HX := rA HX hs1'
  replace HB := rA HB hs1'
  replace HP := rA HP hs1'
  clear hS1 hU1 hb1 hs1'
  obtain ⟨d0, d1, d2, d3, d4, d5, d6, d7, d8, d9, d10, d11, d12⟩ := SRow.box HX.out
  obtain ⟨z0, z1, z2, z3, z4, z5, z6, z7, z8, z9, z10⟩ := HB.out.bbox
  have p0 := HP.out.cell 0
  have p1 := HP.out.cell 1
  go_wp2_with fail
  refine (sellPromise_any x a b fo fc _ (HS.out.below HW.out) (SlAt.below Fo.REnt.mono HF.out HW.out)).mono ?_
  rintro e w2 ⟨r2, y2, a2, rfl, hS2, hU2, hb2⟩
  replace HW := rW HW hb2
  replace HX := rA HX hb2
  replace HB := rA HB hb2
  replace HP := rA HP hb2
  replace HA1 := rS HA1 hb2
  replace HR1 := rA HR1 hb2
  clear d0 d1 d2 d3 d4 d5 d6 d7 d8 d9 d10 d11 d12 z0 z1 z2 z3 z4 z5 z6 z7 z8 z9 z10 p0 p1
  have HS2 : Aside (P.SellS 2 x b r2 y2) := hS2
  have hs2' := sail_below w2 y2 a2
  have HA2 : Aside (SailAt (W.sail w2 y2 a2) y2 a2) := hU2.at.below hs2'
  have HR2 : Aside (SRow (W.sail w2 y2 a2) w2.heap.size y2 a2) := RowIs.new w2 _ _
  replace HW := rW HW hs2'
  replace HX := rA HX hs2'
  replace HB := rA HB hs2'
  replace HP := rA HP hs2'
  replace HA1 := rS HA1 hs2'
  replace HR1 := rA HR1 hs2'
  clear hS2 hU2 hb2 hs2'
  obtain ⟨d0, d1, d2, d3, d4, d5, d6, d7, d8, d9, d10, d11, d12⟩ := SRow.box HX.out
  obtain ⟨z0, z1, z2, z3, z4, z5, z6, z7, z8, z9, z10⟩ := HB.out.bbox
  have p0 := HP.out.cell 0
  have p1 := HP.out.cell 1
  go_wp2_with fail
  refine (sellOffers_any x a g lv f t _ (HS.out.below HW.out)).mono ?_
  rintro e w3 ⟨r3, v3, l3, rfl, own3, hO3, hb3⟩
  replace HW := rW HW hb3
  replace HX := rA HX hb3
  replace HB := rA HB hb3
  replace HP := rA HP hb3
  replace HA1 := rS HA1 hb3
  replace HR1 := rA HR1 hb3
  replace HA2 := rS HA2 hb3
  replace HR2 := rA HR2 hb3
  clear d0 d1 d2 d3 d4 d5 d6 d7 d8 d9 d10 d11 d12 z0 z1 z2 z3 z4 z5 z6 z7 z8 z9 z10 p0 p1
  obtain ⟨ao3, cap3, rfl, hl3⟩ := OwnJ.at own3
  have HO3 : Aside (P.OffS x g lv f t r3 l3) := hO3
  have HL3 : Aside (IntsAt w3 ao3 cap3 l3) := hl3
  clear own3 hO3 hl3 hb3
  obtain ⟨d0, d1, d2, d3, d4, d5, d6, d7, d8, d9, d10, d11, d12⟩ := SRow.box HX.out
  obtain ⟨z0, z1, z2, z3, z4, z5, z6, z7, z8, z9, z10⟩ := HB.out.bbox
  have p0 := HP.out.cell 0
  have p1 := HP.out.cell 1
  go_wp2_with fail
  refine (refSail_any x a _ (HS.out.below HW.out)).mono ?_
  rintro e w4 ⟨v4, rfl, hv, hb4⟩
  replace HW := rW HW hb4
  replace HX := rA HX hb4
  replace HB := rA HB hb4
  replace HP := rA HP hb4
  replace HA1 := rS HA1 hb4
  replace HR1 := rA HR1 hb4
  replace HA2 := rS HA2 hb4
  replace HR2 := rA HR2 hb4
  replace HL3 := rI HL3 hb4
  clear d0 d1 d2 d3 d4 d5 d6 d7 d8 d9 d10 d11 d12 z0 z1 z2 z3 z4 z5 z6 z7 z8 z9 z10 p0 p1
  obtain rfl := SailE.one HE.out hv
  clear hv hb4
  have hzb : Below w4.heap.size w4 ((w4.alloc O.zs).alloc O.zs) := bvia (al _ _) (al _ _)
  have HV : Aside (Below w4.heap.size w4 ((w4.alloc O.zs).alloc O.zs)) := hzb
  have hw4 : w.heap.size + 1 + 1 < w4.heap.size := HP.out.lt
  have hr1 : w1.heap.size < w4.heap.size := HR1.out.lt
  have hr2 : w2.heap.size < w4.heap.size := HR2.out.lt
  have HZ1 : Aside (RowIs ((w4.alloc O.zs).alloc O.zs) w4.heap.size C.zs) := (RowIs.new w4 C.zs 32).below (al _ _)
  have HZ2 : Aside (RowIs ((w4.alloc O.zs).alloc O.zs) (w4.heap.size + 1) C.zs) := by
    have := RowIs.new (w4.alloc O.zs) C.zs 32
    rwa [World.size_alloc] at this
  replace HW := rW HW hzb
  replace HX := rA HX hzb
  replace HB := rA HB hzb
  replace HP := rA HP hzb
  replace HR1 := rA HR1 hzb
  replace HR2 := rA HR2 hzb
  clear hzb
  obtain ⟨d0, d1, d2, d3, d4, d5, d6, d7, d8, d9, d10, d11, d12⟩ := SRow.box HX.out
  obtain ⟨z0, z1, z2, z3, z4, z5, z6, z7, z8, z9, z10⟩ := HB.out.bbox
  have p0 := HP.out.cell 0
  have p1 := HP.out.cell 1
  go_wp2_with fail
  refine (sellOf1_ok x a b fo fc w _ HW.out HS.out HE.out (SlAt.below Fo.REnt.mono HF.out HW.out)).mono ?_
  rintro e u1 ⟨q1, z1', b1, rfl, hq1, hz1, hc1⟩
  replace HW := rW HW hc1
  replace HX := rA HX hc1
  replace HB := rA HB hc1
  replace HP := rA HP hc1
  replace HR1 := rA HR1 hc1
  replace HR2 := rA HR2 hc1
  replace HV := rW HV hc1
  replace HZ1 := rA HZ1 hc1
  replace HZ2 := rA HZ2 hc1
  clear d0 d1 d2 d3 d4 d5 d6 d7 d8 d9 d10 d11 d12 z0 z1 z2 z3 z4 z5 z6 z7 z8 z9 z10 p0 p1
  obtain ⟨rfl, rfl⟩ := sells_good HE.out HS1.out hq1
  have HQ1 : Aside (SailTw w.heap.size (w4.heap.size + 1 + 1) u1 y1 b1) := hz1.mono (by first | (simp; done) | (rw [World.size_alloc, World.size_alloc]; omega))
  clear hq1 hz1 hc1
  go_wp2_with ((with_reducible refine wpList_stO (w4.heap.size) C.zs (C.sail y1 b1) ?_ ?_ ?_ HZ1.out ?_ ?_ ?_); exact Tryz.sizeSail; rfl; rfl; rfl; exact sail_one _ _; intro s1 hr1' hg1; have hsz1 : w4.heap.size ≤ u1.heap.size := HV.out.size; replace HW := gW HW (by omega) hg1 (by omega); replace HX := gA HX hg1 (by omega); replace HB := gA HB hg1 (by omega); replace HP := gA HP hg1 (by omega); replace HR1 := gA HR1 hg1 (by omega); replace HR2 := gA HR2 hg1 (by omega); replace HV := gW HV (by omega) hg1 (by omega); replace HZ1 : Aside (SRow s1 (w4.heap.size) y1 b1) := hr1'; replace HZ2 := gA HZ2 hg1 (by omega); replace HQ1 := tG HQ1 hg1 (by omega) (by omega) (by omega); obtain ⟨d0, d1, d2, d3, d4, d5, d6, d7, d8, d9, d10, d11, d12⟩ := SRow.box HX.out; obtain ⟨z0, z1, z2, z3, z4, z5, z6, z7, z8, z9, z10⟩ := HB.out.bbox; have p0 := HP.out.cell 0; have p1 := HP.out.cell 1; clear hr1' hg1 hsz1)
  have HM2 : Aside (w4.heap.size + 1 + 1 ≤ s1.heap.size) := by have := HZ2.out.lt; show _ ≤ _; omega
  refine (sellOf2_ok x a b fo fc w _ HW.out HS.out HE.out (SlAt.below Fo.REnt.mono HF.out HW.out)).mono ?_
  rintro e u2 ⟨q2, z2', b2, rfl, hq2, hz2, hc2⟩
  replace HQ1 := tB HQ1 hc2 (by have := HV.out.size; omega)
  replace HW := rW HW hc2
  replace HX := rA HX hc2
  replace HB := rA HB hc2
  replace HP := rA HP hc2
  replace HR1 := rA HR1 hc2
  replace HR2 := rA HR2 hc2
  replace HV := rW HV hc2
  replace HZ1 := rA HZ1 hc2
  replace HZ2 := rA HZ2 hc2
  obtain ⟨rfl, rfl⟩ := sells_good HE.out HS2.out hq2
  have HQ2 : Aside (SailTw w.heap.size (w4.heap.size + 1 + 1) u2 y2 b2) := hz2.mono HM2.out
  clear d0 d1 d2 d3 d4 d5 d6 d7 d8 d9 d10 d11 d12 z0 z1 z2 z3 z4 z5 z6 z7 z8 z9 z10 p0 p1
  clear hq2 hz2 hc2
  have HOO : Aside (P.Offs x g lv f t r3 l3) := offs_good HE.out HO3.out
  clear HO3
  obtain ⟨e3, rfl⟩ := offs_is HOO.out (off_range (by simp [P.btw]; omega)) (by first | decide | exact HCN.out)
  rw [e3]
  clear e3 HOO
  go_wp2_with ((with_reducible refine wpList_stO (w4.heap.size + 1) C.zs (C.sail y2 b2) ?_ ?_ ?_ HZ2.out ?_ ?_ ?_); exact Tryz.sizeSail; rfl; rfl; rfl; exact sail_one _ _; intro s2 hr2' hg2; have hsz2 : w4.heap.size ≤ u2.heap.size := HV.out.size; replace HW := gW HW (by omega) hg2 (by omega); replace HX := gA HX hg2 (by omega); replace HB := gA HB hg2 (by omega); replace HP := gA HP hg2 (by omega); replace HR1 := gA HR1 hg2 (by omega); replace HR2 := gA HR2 hg2 (by omega); replace HV := gW HV (by omega) hg2 (by omega); replace HZ1 := gA HZ1 hg2 (by omega); replace HZ2 : Aside (SRow s2 (w4.heap.size + 1) y2 b2) := hr2'; replace HQ1 := tG HQ1 hg2 (by omega) (by omega) (by omega); replace HQ2 := tG HQ2 hg2 (by omega) (by omega) (by omega); obtain ⟨d0, d1, d2, d3, d4, d5, d6, d7, d8, d9, d10, d11, d12⟩ := SRow.box HX.out; obtain ⟨z0, z1, z2, z3, z4, z5, z6, z7, z8, z9, z10⟩ := HB.out.bbox; have p0 := HP.out.cell 0; have p1 := HP.out.cell 1; clear hr2' hg2 hsz2)
  refine (sellBegun_any _).mono ?_
  rintro e wb ⟨rfl, hbb⟩
  replace HQ1 := tB HQ1 hbb (by have := HV.out.size; omega)
  replace HQ2 := tB HQ2 hbb (by have := HV.out.size; omega)
  replace HW := rW HW hbb
  replace HX := rA HX hbb
  replace HB := rA HB hbb
  replace HP := rA HP hbb
  replace HR1 := rA HR1 hbb
  replace HR2 := rA HR2 hbb
  replace HV := rW HV hbb
  replace HZ1 := rA HZ1 hbb
  replace HZ2 := rA HZ2 hbb
  clear d0 d1 d2 d3 d4 d5 d6 d7 d8 d9 d10 d11 d12 z0 z1 z2 z3 z4 z5 z6 z7 z8 z9 z10 p0 p1
  clear hbb
  obtain ⟨d0, d1, d2, d3, d4, d5, d6, d7, d8, d9, d10, d11, d12⟩ := SRow.box HR1.out
  obtain ⟨e0, e1, e2, e3, e4, e5, e6, e7, e8, e9, e10, e11, e12⟩ := SRow.box HZ1.out
  go_wp2_with fail
  refine (sailingIs_any r1 y1 y1 a1 b1 _ (HA1.out.below HV.out) (fun _ => ⟨rfl, HQ1.out.at⟩) (SellS.zero HS1.out)).mono ?_
  rintro e wi1 ⟨rfl, hbi1⟩
  replace HQ1 := tB HQ1 hbi1 (by have := HV.out.size; omega)
  replace HQ2 := tB HQ2 hbi1 (by have := HV.out.size; omega)
  replace HW := rW HW hbi1
  replace HX := rA HX hbi1
  replace HB := rA HB hbi1
  replace HP := rA HP hbi1
  replace HR1 := rA HR1 hbi1
  replace HR2 := rA HR2 hbi1
  replace HV := rW HV hbi1
  replace HZ1 := rA HZ1 hbi1
  replace HZ2 := rA HZ2 hbi1
  clear d0 d1 d2 d3 d4 d5 d6 d7 d8 d9 d10 d11 d12 e0 e1 e2 e3 e4 e5 e6 e7 e8 e9 e10 e11 e12 hbi1
  obtain ⟨d0, d1, d2, d3, d4, d5, d6, d7, d8, d9, d10, d11, d12⟩ := SRow.box HR2.out
  obtain ⟨e0, e1, e2, e3, e4, e5, e6, e7, e8, e9, e10, e11, e12⟩ := SRow.box HZ2.out
  go_wp2_with fail
  refine (sailingIs_any r2 y2 y2 a2 b2 _ (HA2.out.below HV.out) (fun _ => ⟨rfl, HQ2.out.at⟩) (SellS.zero HS2.out)).mono ?_
  rintro e wi2 ⟨rfl, hbi2⟩
  replace HQ1 := tB HQ1 hbi2 (by have := HV.out.size; omega)
  replace HQ2 := tB HQ2 hbi2 (by have := HV.out.size; omega)
  replace HW := rW HW hbi2
  replace HX := rA HX hbi2
  replace HB := rA HB hbi2
  replace HP := rA HP hbi2
  replace HR1 := rA HR1 hbi2
  replace HR2 := rA HR2 hbi2
  replace HV := rW HV hbi2
  replace HZ1 := rA HZ1 hbi2
  replace HZ2 := rA HZ2 hbi2
  clear d0 d1 d2 d3 d4 d5 d6 d7 d8 d9 d10 d11 d12 e0 e1 e2 e3 e4 e5 e6 e7 e8 e9 e10 e11 e12 hbi2
  go_wp2_with fail
  refine (Ma.intsAre_any _ _ _ _ ([] : List Int) ([] : List Int) 3 3 _ (SlAt.below RInt.mono HL3.out HV.out) (SlAt.nilOf _)).mono ?_
  rintro e wf ⟨rfl, hbf⟩
  replace HW := rW HW hbf
  rw [show (decide ((3 : Int) = 3) && decide (([] : List Int) = Ma.P.wantI 3 ([] : List Int))) = true by simp [Ma.P.wantI]]
  go_wp2
  go_ret
  exact ⟨rfl, HW.out⟩

end Go.Proofs.YtpjfpgimpgmhcadGreat.St
