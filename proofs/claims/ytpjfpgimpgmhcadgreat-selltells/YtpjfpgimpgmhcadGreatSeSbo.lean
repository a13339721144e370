/- SellTells: a sailing that is right. -/
import Derived.Test.YtpjfpgimpgmhcadGreatSeNo
import Derived.Test.YtpjfpgimpgmhcadGreatSeMo
import Derived.Test.YtpjfpgimpgmhcadGreatSeKo
namespace Go.Proofs.YtpjfpgimpgmhcadGreat.St
open Go.RowKit Bk
set_option linter.unusedSimpArgs false
set_option linter.unusedVariables false
set_option maxRecDepth 10000

set_option maxHeartbeats 16000000 in
theorem sellTells_goodC (x : Sail) (a : SailA) (b : Bkg) (fo : Option Addr) (fc : Nat) (g : Int) (lv : Bool) (f t : Int) (w : World) (hs : SailAt w x a) (hf : Fo.EntsAt w fo fc b.fol) (HE : Aside (P.SailE x 0)) (hg1 : ¬ g < 1) (hg4 : ¬ 4 < g) (hcn : ¬ P.chk f t x.s.legs = 0) :
    Calls Tryz.prog 6 #[V.sail x a, V.bk b fo fc, .int .i64 g, .bool lv, .agg #[.int .i64 f, .int .i64 t]] w fun e w' => e = .returned (.bool true) ∧ Below w.heap.size w w' := by
  have HS : Aside (SailAt w x a) := hs
  have HF : Aside (Fo.EntsAt w fo fc b.fol) := hf
  have HW : Aside (Below w.heap.size w (W.sp2 (W.bk (W.sail w x a) b fo fc) f t)) := bvia (sail_below w x a) (bvia (bk_below _ b fo fc) (by go_grown))
  have HX : Aside (SRow (W.sp2 (W.bk (W.sail w x a) b fo fc) f t) w.heap.size x a) := ((RowIs.new w _ _ : SRow (W.sail w x a) w.heap.size x a).below (bk_below _ b fo fc)).below (by go_grown)
  have HB : Aside (RowIs (W.sp2 (W.bk (W.sail w x a) b fo fc) f t) (w.heap.size + 1) (C.bk b fo fc)) := by
    have := (RowIs.new (W.sail w x a) (C.bk b fo fc) 42).below (w' := W.sp2 (W.bk (W.sail w x a) b fo fc) f t) (by go_grown)
    rwa [World.size_alloc] at this
  have HP : Aside (RowIs (W.sp2 (W.bk (W.sail w x a) b fo fc) f t) (w.heap.size + 1 + 1) #[.int .i64 f, .int .i64 t]) := by
    have := RowIs.new (W.bk (W.sail w x a) b fo fc) #[.int .i64 f, .int .i64 t] 39
    rwa [World.size_alloc, World.size_alloc] at this
  clear hs hf
  have HG : Aside (P.btw g 1 4 = true) := by show _ = _; simp [P.btw]; omega
  have HCN : Aside (¬ P.chk f t x.s.legs = 0) := hcn
  clear hcn
  obtain ⟨d0, d1, d2, d3, d4, d5, d6, d7, d8, d9, d10, d11, d12⟩ := SRow.box HX.out
  obtain ⟨z0, z1, z2, z3, z4, z5, z6, z7, z8, z9, z10⟩ := HB.out.bbox
  have p0 := HP.out.cell 0
  have p1 := HP.out.cell 1
  go_enter Tryz.func6, Tryz.ntmps6
  clear d0 d1 d2 d3 d4 d5 d6 d7 d8 d9 d10 d11 d12 z0 z1 z2 z3 z4 z5 z6 z7 z8 z9 z10 p0 p1
  obtain ⟨d0, d1, d2, d3, d4, d5, d6, d7, d8, d9, d10, d11, d12⟩ := SRow.box HX.out
  obtain ⟨z0, z1, z2, z3, z4, z5, z6, z7, z8, z9, z10⟩ := HB.out.bbox
  have p0 := HP.out.cell 0
  have p1 := HP.out.cell 1
  go_wp2_with fail
  refine (sellNamed_any x a b fo fc _ (HS.out.below HW.out) (SlAt.below Fo.REnt.mono HF.out HW.out)).mono ?_
  rintro e w1 ⟨r1, y1, a1, rfl, hS1, hU1, hb1⟩
  replace HW := rW HW hb1
  replace HX := rA HX hb1
  replace HB := rA HB hb1
  replace HP := rA HP hb1
  clear d0 d1 d2 d3 d4 d5 d6 d7 d8 d9 d10 d11 d12 z0 z1 z2 z3 z4 z5 z6 z7 z8 z9 z10 p0 p1
  have HS1 : Aside (P.SellS 1 x b r1 y1) := hS1
  have hs1' := sail_below w1 y1 a1
  have HA1 : Aside (SailAt (W.sail w1 y1 a1) y1 a1) := hU1.at.below hs1'
  have HR1 : Aside (SRow (W.sail w1 y1 a1) w1.heap.size y1 a1) := RowIs.new w1 _ _
  replace HW := rW HW hs1'
  replace HX := rA HX hs1'
  replace HB := rA HB hs1'
  replace HP := rA HP hs1'
  clear hS1 hU1 hb1 hs1'
  obtain ⟨d0, d1, d2, d3, d4, d5, d6, d7, d8, d9, d10, d11, d12⟩ := SRow.box HX.out
  obtain ⟨z0, z1, z2, z3, z4, z5, z6, z7, z8, z9, z10⟩ := HB.out.bbox
  have p0 := HP.out.cell 0
  have p1 := HP.out.cell 1
  go_wp2_with fail
  refine (sellPromise_any x a b fo fc _ (HS.out.below HW.out) (SlAt.below Fo.REnt.mono HF.out HW.out)).mono ?_
  rintro e w2 ⟨r2, y2, a2, rfl, hS2, hU2, hb2⟩
  replace HW := rW HW hb2
  replace HX := rA HX hb2
  replace HB := rA HB hb2
  replace HP := rA HP hb2
  replace HA1 := rS HA1 hb2
  replace HR1 := rA HR1 hb2
  clear d0 d1 d2 d3 d4 d5 d6 d7 d8 d9 d10 d11 d12 z0 z1 z2 z3 z4 z5 z6 z7 z8 z9 z10 p0 p1
  have HS2 : Aside (P.SellS 2 x b r2 y2) := hS2
  have hs2' := sail_below w2 y2 a2
  have HA2 : Aside (SailAt (W.sail w2 y2 a2) y2 a2) := hU2.at.below hs2'
  have HR2 : Aside (SRow (W.sail w2 y2 a2) w2.heap.size y2 a2) := RowIs.new w2 _ _
  replace HW := rW HW hs2'
  replace HX := rA HX hs2'
  replace HB := rA HB hs2'
  replace HP := rA HP hs2'
  replace HA1 := rS HA1 hs2'
  replace HR1 := rA HR1 hs2'
  clear hS2 hU2 hb2 hs2'
  obtain ⟨d0, d1, d2, d3, d4, d5, d6, d7, d8, d9, d10, d11, d12⟩ := SRow.box HX.out
  obtain ⟨z0, z1, z2, z3, z4, z5, z6, z7, z8, z9, z10⟩ := HB.out.bbox
  have p0 := HP.out.cell 0
  have p1 := HP.out.cell 1
  go_wp2_with fail
  refine (sellOffers_any x a g lv f t _ (HS.out.below HW.out)).mono ?_
  rintro e w3 ⟨r3, v3, l3, rfl, own3, hO3, hb3⟩
  replace HW := rW HW hb3
  replace HX := rA HX hb3
  replace HB := rA HB hb3
  replace HP := rA HP hb3
  replace HA1 := rS HA1 hb3
  replace HR1 := rA HR1 hb3
  replace HA2 := rS HA2 hb3
  replace HR2 := rA HR2 hb3
  clear d0 d1 d2 d3 d4 d5 d6 d7 d8 d9 d10 d11 d12 z0 z1 z2 z3 z4 z5 z6 z7 z8 z9 z10 p0 p1
  obtain ⟨ao3, cap3, rfl, hl3⟩ := OwnJ.at own3
  have HO3 : Aside (P.OffS x g lv f t r3 l3) := hO3
  have HL3 : Aside (IntsAt w3 ao3 cap3 l3) := hl3
  clear own3 hO3 hl3 hb3
  obtain ⟨d0, d1, d2, d3, d4, d5, d6, d7, d8, d9, d10, d11, d12⟩ := SRow.box HX.out
  obtain ⟨z0, z1, z2, z3, z4, z5, z6, z7, z8, z9, z10⟩ := HB.out.bbox
  have p0 := HP.out.cell 0
  have p1 := HP.out.cell 1
  go_wp2_with fail
  refine (refSail_any x a _ (HS.out.below HW.out)).mono ?_
  rintro e w4 ⟨v4, rfl, hv, hb4⟩
  replace HW := rW HW hb4
  replace HX := rA HX hb4
  replace HB := rA HB hb4
  replace HP := rA HP hb4
  replace HA1 := rS HA1 hb4
  replace HR1 := rA HR1 hb4
  replace HA2 := rS HA2 hb4
  replace HR2 := rA HR2 hb4
  replace HL3 := rI HL3 hb4
  clear d0 d1 d2 d3 d4 d5 d6 d7 d8 d9 d10 d11 d12 z0 z1 z2 z3 z4 z5 z6 z7 z8 z9 z10 p0 p1
  obtain rfl := SailE.one HE.out hv
  clear hv hb4
  have hzb : Below w4.heap.size w4 ((w4.alloc O.zs).alloc O.zs) := bvia (al _ _) (al _ _)
  have HV : Aside (Below w4.heap.size w4 ((w4.alloc O.zs).alloc O.zs)) := hzb
  have hw4 : w.heap.size + 1 + 1 < w4.heap.size := HP.out.lt
  have hr1 : w1.heap.size < w4.heap.size := HR1.out.lt
  have hr2 : w2.heap.size < w4.heap.size := HR2.out.lt
  have HZ1 : Aside (RowIs ((w4.alloc O.zs).alloc O.zs) w4.heap.size C.zs) := (RowIs.new w4 C.zs 32).below (al _ _)
  have HZ2 : Aside (RowIs ((w4.alloc O.zs).alloc O.zs) (w4.heap.size + 1) C.zs) := by
    have := RowIs.new (w4.alloc O.zs) C.zs 32
    rwa [World.size_alloc] at this
  replace HW := rW HW hzb
  replace HX := rA HX hzb
  replace HB := rA HB hzb
  replace HP := rA HP hzb
  replace HR1 := rA HR1 hzb
  replace HR2 := rA HR2 hzb
  clear hzb
  obtain ⟨d0, d1, d2, d3, d4, d5, d6, d7, d8, d9, d10, d11, d12⟩ := SRow.box HX.out
  obtain ⟨z0, z1, z2, z3, z4, z5, z6, z7, z8, z9, z10⟩ := HB.out.bbox
  have p0 := HP.out.cell 0
  have p1 := HP.out.cell 1
  go_wp2_with fail
  refine (sellOf1_ok x a b fo fc w _ HW.out HS.out HE.out (SlAt.below Fo.REnt.mono HF.out HW.out)).mono ?_
  rintro e u1 ⟨q1, z1', b1, rfl, hq1, hz1, hc1⟩
  replace HW := rW HW hc1
  replace HX := rA HX hc1
  replace HB := rA HB hc1
  replace HP := rA HP hc1
  replace HR1 := rA HR1 hc1
  replace HR2 := rA HR2 hc1
  replace HV := rW HV hc1
  replace HZ1 := rA HZ1 hc1
  replace HZ2 := rA HZ2 hc1
  clear d0 d1 d2 d3 d4 d5 d6 d7 d8 d9 d10 d11 d12 z0 z1 z2 z3 z4 z5 z6 z7 z8 z9 z10 p0 p1
  obtain ⟨rfl, rfl⟩ := sells_good HE.out HS1.out hq1
  have HQ1 : Aside (SailTw w.heap.size (w4.heap.size + 1 + 1) u1 y1 b1) := hz1.mono (by first | (simp; done) | (rw [World.size_alloc, World.size_alloc]; omega))
  clear hq1 hz1 hc1
  go_wp2_with ((with_reducible refine wpList_stO (w4.heap.size) C.zs (C.sail y1 b1) ?_ ?_ ?_ HZ1.out ?_ ?_ ?_); exact Tryz.sizeSail; rfl; rfl; rfl; exact sail_one _ _; intro s1 hr1' hg1; have hsz1 : w4.heap.size ≤ u1.heap.size := HV.out.size; replace HW := gW HW (by omega) hg1 (by omega); replace HX := gA HX hg1 (by omega); replace HB := gA HB hg1 (by omega); replace HP := gA HP hg1 (by omega); replace HR1 := gA HR1 hg1 (by omega); replace HR2 := gA HR2 hg1 (by omega); replace HV := gW HV (by omega) hg1 (by omega); replace HZ1 : Aside (SRow s1 (w4.heap.size) y1 b1) := hr1'; replace HZ2 := gA HZ2 hg1 (by omega); replace HQ1 := tG HQ1 hg1 (by omega) (by omega) (by omega); obtain ⟨d0, d1, d2, d3, d4, d5, d6, d7, d8, d9, d10, d11, d12⟩ := SRow.box HX.out; obtain ⟨z0, z1, z2, z3, z4, z5, z6, z7, z8, z9, z10⟩ := HB.out.bbox; have p0 := HP.out.cell 0; have p1 := HP.out.cell 1; clear hr1' hg1 hsz1)
  have HM2 : Aside (w4.heap.size + 1 + 1 ≤ s1.heap.size) := by have := HZ2.out.lt; show _ ≤ _; omega
  refine (sellOf2_ok x a b fo fc w _ HW.out HS.out HE.out (SlAt.below Fo.REnt.mono HF.out HW.out)).mono ?_
  rintro e u2 ⟨q2, z2', b2, rfl, hq2, hz2, hc2⟩
  replace HQ1 := tB HQ1 hc2 (by have := HV.out.size; omega)
  replace HW := rW HW hc2
  replace HX := rA HX hc2
  replace HB := rA HB hc2
  replace HP := rA HP hc2
  replace HR1 := rA HR1 hc2
  replace HR2 := rA HR2 hc2
  replace HV := rW HV hc2
  replace HZ1 := rA HZ1 hc2
  replace HZ2 := rA HZ2 hc2
  obtain ⟨rfl, rfl⟩ := sells_good HE.out HS2.out hq2
  have HQ2 : Aside (SailTw w.heap.size (w4.heap.size + 1 + 1) u2 y2 b2) := hz2.mono HM2.out
  clear d0 d1 d2 d3 d4 d5 d6 d7 d8 d9 d10 d11 d12 z0 z1 z2 z3 z4 z5 z6 z7 z8 z9 z10 p0 p1
  clear hq2 hz2 hc2
  have HOO : Aside (P.Offs x g lv f t r3 l3) := offs_good HE.out HO3.out
  clear HO3
  go_wp2_with ((with_reducible refine wpList_stO (w4.heap.size + 1) C.zs (C.sail y2 b2) ?_ ?_ ?_ HZ2.out ?_ ?_ ?_); exact Tryz.sizeSail; rfl; rfl; rfl; exact sail_one _ _; intro s2 hr2' hg2; have hsz2 : w4.heap.size ≤ u2.heap.size := HV.out.size; replace HW := gW HW (by omega) hg2 (by omega); replace HX := gA HX hg2 (by omega); replace HB := gA HB hg2 (by omega); replace HP := gA HP hg2 (by omega); replace HR1 := gA HR1 hg2 (by omega); replace HR2 := gA HR2 hg2 (by omega); replace HV := gW HV (by omega) hg2 (by omega); replace HZ1 := gA HZ1 hg2 (by omega); replace HZ2 : Aside (SRow s2 (w4.heap.size + 1) y2 b2) := hr2'; replace HQ1 := tG HQ1 hg2 (by omega) (by omega) (by omega); replace HQ2 := tG HQ2 hg2 (by omega) (by omega) (by omega); obtain ⟨d0, d1, d2, d3, d4, d5, d6, d7, d8, d9, d10, d11, d12⟩ := SRow.box HX.out; obtain ⟨z0, z1, z2, z3, z4, z5, z6, z7, z8, z9, z10⟩ := HB.out.bbox; have p0 := HP.out.cell 0; have p1 := HP.out.cell 1; clear hr2' hg2 hsz2)
  refine (Sp.checkSpan_any f t x.s.legs _).mono ?_
  rintro e w6 ⟨rfl, hb6⟩
  replace HQ1 := tB HQ1 hb6 (by have := HV.out.size; omega)
  replace HQ2 := tB HQ2 hb6 (by have := HV.out.size; omega)
  replace HW := rW HW hb6
  replace HX := rA HX hb6
  replace HB := rA HB hb6
  replace HP := rA HP hb6
  replace HR1 := rA HR1 hb6
  replace HR2 := rA HR2 hb6
  replace HV := rW HV hb6
  replace HZ1 := rA HZ1 hb6
  replace HZ2 := rA HZ2 hb6
  clear d0 d1 d2 d3 d4 d5 d6 d7 d8 d9 d10 d11 d12 z0 z1 z2 z3 z4 z5 z6 z7 z8 z9 z10 p0 p1
  clear hb6 hg1 hg4
  have hc : (P.chk f t x.s.legs == 0) = false := by simpa using HCN.out
  obtain ⟨e3, rfl⟩ := offs_is HOO.out (off_span HG.out HCN.out) (by first | decide | exact HCN.out)
  rw [e3]
  clear e3 HOO
  obtain ⟨d0, d1, d2, d3, d4, d5, d6, d7, d8, d9, d10, d11, d12⟩ := SRow.box HX.out
  obtain ⟨z0, z1, z2, z3, z4, z5, z6, z7, z8, z9, z10⟩ := HB.out.bbox
  have p0 := HP.out.cell 0
  have p1 := HP.out.cell 1
  go_wp2_with fail
  refine (sellBegun_any _).mono ?_
  rintro e wb ⟨rfl, hbb⟩
  replace HQ1 := tB HQ1 hbb (by have := HV.out.size; omega)
  replace HQ2 := tB HQ2 hbb (by have := HV.out.size; omega)
  replace HW := rW HW hbb
  replace HX := rA HX hbb
  replace HB := rA HB hbb
  replace HP := rA HP hbb
  replace HR1 := rA HR1 hbb
  replace HR2 := rA HR2 hbb
  replace HV := rW HV hbb
  replace HZ1 := rA HZ1 hbb
  replace HZ2 := rA HZ2 hbb
  clear d0 d1 d2 d3 d4 d5 d6 d7 d8 d9 d10 d11 d12 z0 z1 z2 z3 z4 z5 z6 z7 z8 z9 z10 p0 p1
  clear hbb
  obtain ⟨d0, d1, d2, d3, d4, d5, d6, d7, d8, d9, d10, d11, d12⟩ := SRow.box HR1.out
  obtain ⟨e0, e1, e2, e3, e4, e5, e6, e7, e8, e9, e10, e11, e12⟩ := SRow.box HZ1.out
  go_wp2_with fail
  refine (sailingIs_any r1 y1 y1 a1 b1 _ (HA1.out.below HV.out) (fun _ => ⟨rfl, HQ1.out.at⟩) (SellS.zero HS1.out)).mono ?_
  rintro e wi1 ⟨rfl, hbi1⟩
  replace HQ1 := tB HQ1 hbi1 (by have := HV.out.size; omega)
  replace HQ2 := tB HQ2 hbi1 (by have := HV.out.size; omega)
  replace HW := rW HW hbi1
  replace HX := rA HX hbi1
  replace HB := rA HB hbi1
  replace HP := rA HP hbi1
  replace HR1 := rA HR1 hbi1
  replace HR2 := rA HR2 hbi1
  replace HV := rW HV hbi1
  replace HZ1 := rA HZ1 hbi1
  replace HZ2 := rA HZ2 hbi1
  clear d0 d1 d2 d3 d4 d5 d6 d7 d8 d9 d10 d11 d12 e0 e1 e2 e3 e4 e5 e6 e7 e8 e9 e10 e11 e12 hbi1
  obtain ⟨d0, d1, d2, d3, d4, d5, d6, d7, d8, d9, d10, d11, d12⟩ := SRow.box HR2.out
  obtain ⟨e0, e1, e2, e3, e4, e5, e6, e7, e8, e9, e10, e11, e12⟩ := SRow.box HZ2.out
  go_wp2_with fail
  refine (sailingIs_any r2 y2 y2 a2 b2 _ (HA2.out.below HV.out) (fun _ => ⟨rfl, HQ2.out.at⟩) (SellS.zero HS2.out)).mono ?_
  rintro e wi2 ⟨rfl, hbi2⟩
  replace HQ1 := tB HQ1 hbi2 (by have := HV.out.size; omega)
  replace HQ2 := tB HQ2 hbi2 (by have := HV.out.size; omega)
  replace HW := rW HW hbi2
  replace HX := rA HX hbi2
  replace HB := rA HB hbi2
  replace HP := rA HP hbi2
  replace HR1 := rA HR1 hbi2
  replace HR2 := rA HR2 hbi2
  replace HV := rW HV hbi2
  replace HZ1 := rA HZ1 hbi2
  replace HZ2 := rA HZ2 hbi2
  clear d0 d1 d2 d3 d4 d5 d6 d7 d8 d9 d10 d11 d12 e0 e1 e2 e3 e4 e5 e6 e7 e8 e9 e10 e11 e12 hbi2
  go_wp2_with fail
  refine (Ma.intsAre_any _ _ _ _ ([] : List Int) ([] : List Int) (P.chk f t x.s.legs) (P.chk f t x.s.legs) _ (SlAt.below RInt.mono HL3.out HV.out) (SlAt.nilOf _)).mono ?_
  rintro e wf ⟨rfl, hbf⟩
  replace HW := rW HW hbf
  rw [show (decide (((P.chk f t x.s.legs) : Int) = (P.chk f t x.s.legs)) && decide (([] : List Int) = Ma.P.wantI (P.chk f t x.s.legs) ([] : List Int))) = true by simp [Ma.P.wantI]]
  go_wp2
  go_ret
  exact ⟨rfl, HW.out⟩

set_option maxHeartbeats 16000000 in
theorem sellTells_goodD (x : Sail) (a : SailA) (b : Bkg) (fo : Option Addr) (fc : Nat) (g : Int) (lv : Bool) (f t : Int) (w : World) (hs : SailAt w x a) (hf : Fo.EntsAt w fo fc b.fol) (HE : Aside (P.SailE x 0)) (hg1 : ¬ g < 1) (hg4 : ¬ 4 < g) (hc : P.chk f t x.s.legs = 0) (hl : x.lvs ≤ x.day) :
    Calls Tryz.prog 6 #[V.sail x a, V.bk b fo fc, .int .i64 g, .bool lv, .agg #[.int .i64 f, .int .i64 t]] w fun e w' => e = .returned (.bool true) ∧ Below w.heap.size w w' := by
  have HS : Aside (SailAt w x a) := hs
  have HF : Aside (Fo.EntsAt w fo fc b.fol) := hf
  have HW : Aside (Below w.heap.size w (W.sp2 (W.bk (W.sail w x a) b fo fc) f t)) := bvia (sail_below w x a) (bvia (bk_below _ b fo fc) (by go_grown))
  have HX : Aside (SRow (W.sp2 (W.bk (W.sail w x a) b fo fc) f t) w.heap.size x a) := ((RowIs.new w _ _ : SRow (W.sail w x a) w.heap.size x a).below (bk_below _ b fo fc)).below (by go_grown)
  have HB : Aside (RowIs (W.sp2 (W.bk (W.sail w x a) b fo fc) f t) (w.heap.size + 1) (C.bk b fo fc)) := by
    have := (RowIs.new (W.sail w x a) (C.bk b fo fc) 42).below (w' := W.sp2 (W.bk (W.sail w x a) b fo fc) f t) (by go_grown)
    rwa [World.size_alloc] at this
  have HP : Aside (RowIs (W.sp2 (W.bk (W.sail w x a) b fo fc) f t) (w.heap.size + 1 + 1) #[.int .i64 f, .int .i64 t]) := by
    have := RowIs.new (W.bk (W.sail w x a) b fo fc) #[.int .i64 f, .int .i64 t] 39
    rwa [World.size_alloc, World.size_alloc] at this
  clear hs hf
  have HG : Aside (P.btw g 1 4 = true) := by show _ = _; simp [P.btw]; omega
  have HC : Aside (P.chk f t x.s.legs = 0) := hc
  have HLX : Aside (x.lvs ≤ x.day) := hl
  clear hc hl
  obtain ⟨d0, d1, d2, d3, d4, d5, d6, d7, d8, d9, d10, d11, d12⟩ := SRow.box HX.out
  obtain ⟨z0, z1, z2, z3, z4, z5, z6, z7, z8, z9, z10⟩ := HB.out.bbox
  have p0 := HP.out.cell 0
  have p1 := HP.out.cell 1
  go_enter Tryz.func6, Tryz.ntmps6
  clear d0 d1 d2 d3 d4 d5 d6 d7 d8 d9 d10 d11 d12 z0 z1 z2 z3 z4 z5 z6 z7 z8 z9 z10 p0 p1
  obtain ⟨d0, d1, d2, d3, d4, d5, d6, d7, d8, d9, d10, d11, d12⟩ := SRow.box HX.out
  obtain ⟨z0, z1, z2, z3, z4, z5, z6, z7, z8, z9, z10⟩ := HB.out.bbox
  have p0 := HP.out.cell 0
  have p1 := HP.out.cell 1
  go_wp2_with fail
  refine (sellNamed_any x a b fo fc _ (HS.out.below HW.out) (SlAt.below Fo.REnt.mono HF.out HW.out)).mono ?_
  rintro e w1 ⟨r1, y1, a1, rfl, hS1, hU1, hb1⟩
  replace HW := rW HW hb1
  replace HX := rA HX hb1
  replace HB := rA HB hb1
  replace HP := rA HP hb1
  clear d0 d1 d2 d3 d4 d5 d6 d7 d8 d9 d10 d11 d12 z0 z1 z2 z3 z4 z5 z6 z7 z8 z9 z10 p0 p1
  have HS1 : Aside (P.SellS 1 x b r1 y1) := hS1
  have hs1' := sail_below w1 y1 a1
  have HA1 : Aside (SailAt (W.sail w1 y1 a1) y1 a1) := hU1.at.below hs1'
  have HR1 : Aside (SRow (W.sail w1 y1 a1) w1.heap.size y1 a1) := RowIs.new w1 _ _
  replace HW := rW HW hs1'
  replace HX := rA HX hs1'
  replace HB := rA HB hs1'
  replace HP := rA HP hs1'
  clear hS1 hU1 hb1 hs1'
  obtain ⟨d0, d1, d2, d3, d4, d5, d6, d7, d8, d9, d10, d11, d12⟩ := SRow.box HX.out
  obtain ⟨z0, z1, z2, z3, z4, z5, z6, z7, z8, z9, z10⟩ := HB.out.bbox
  have p0 := HP.out.cell 0
  have p1 := HP.out.cell 1
  go_wp2_with fail
  refine (sellPromise_any x a b fo fc _ (HS.out.below HW.out) (SlAt.below Fo.REnt.mono HF.out HW.out)).mono ?_
  rintro e w2 ⟨r2, y2, a2, rfl, hS2, hU2, hb2⟩
  replace HW := rW HW hb2
  replace HX := rA HX hb2
  replace HB := rA HB hb2
  replace HP := rA HP hb2
  replace HA1 := rS HA1 hb2
  replace HR1 := rA HR1 hb2
  clear d0 d1 d2 d3 d4 d5 d6 d7 d8 d9 d10 d11 d12 z0 z1 z2 z3 z4 z5 z6 z7 z8 z9 z10 p0 p1
  have HS2 : Aside (P.SellS 2 x b r2 y2) := hS2
  have hs2' := sail_below w2 y2 a2
  have HA2 : Aside (SailAt (W.sail w2 y2 a2) y2 a2) := hU2.at.below hs2'
  have HR2 : Aside (SRow (W.sail w2 y2 a2) w2.heap.size y2 a2) := RowIs.new w2 _ _
  replace HW := rW HW hs2'
  replace HX := rA HX hs2'
  replace HB := rA HB hs2'
  replace HP := rA HP hs2'
  replace HA1 := rS HA1 hs2'
  replace HR1 := rA HR1 hs2'
  clear hS2 hU2 hb2 hs2'
  obtain ⟨d0, d1, d2, d3, d4, d5, d6, d7, d8, d9, d10, d11, d12⟩ := SRow.box HX.out
  obtain ⟨z0, z1, z2, z3, z4, z5, z6, z7, z8, z9, z10⟩ := HB.out.bbox
  have p0 := HP.out.cell 0
  have p1 := HP.out.cell 1
  go_wp2_with fail
  refine (sellOffers_any x a g lv f t _ (HS.out.below HW.out)).mono ?_
  rintro e w3 ⟨r3, v3, l3, rfl, own3, hO3, hb3⟩
  replace HW := rW HW hb3
  replace HX := rA HX hb3
  replace HB := rA HB hb3
  replace HP := rA HP hb3
  replace HA1 := rS HA1 hb3
  replace HR1 := rA HR1 hb3
  replace HA2 := rS HA2 hb3
  replace HR2 := rA HR2 hb3
  clear d0 d1 d2 d3 d4 d5 d6 d7 d8 d9 d10 d11 d12 z0 z1 z2 z3 z4 z5 z6 z7 z8 z9 z10 p0 p1
  obtain ⟨ao3, cap3, rfl, hl3⟩ := OwnJ.at own3
  have HO3 : Aside (P.OffS x g lv f t r3 l3) := hO3
  have HL3 : Aside (IntsAt w3 ao3 cap3 l3) := hl3
  clear own3 hO3 hl3 hb3
  obtain ⟨d0, d1, d2, d3, d4, d5, d6, d7, d8, d9, d10, d11, d12⟩ := SRow.box HX.out
  obtain ⟨z0, z1, z2, z3, z4, z5, z6, z7, z8, z9, z10⟩ := HB.out.bbox
  have p0 := HP.out.cell 0
  have p1 := HP.out.cell 1
  go_wp2_with fail
  refine (refSail_any x a _ (HS.out.below HW.out)).mono ?_
  rintro e w4 ⟨v4, rfl, hv, hb4⟩
  replace HW := rW HW hb4
  replace HX := rA HX hb4
  replace HB := rA HB hb4
  replace HP := rA HP hb4
  replace HA1 := rS HA1 hb4
  replace HR1 := rA HR1 hb4
  replace HA2 := rS HA2 hb4
  replace HR2 := rA HR2 hb4
  replace HL3 := rI HL3 hb4
  clear d0 d1 d2 d3 d4 d5 d6 d7 d8 d9 d10 d11 d12 z0 z1 z2 z3 z4 z5 z6 z7 z8 z9 z10 p0 p1
  obtain rfl := SailE.one HE.out hv
  clear hv hb4
  have hzb : Below w4.heap.size w4 ((w4.alloc O.zs).alloc O.zs) := bvia (al _ _) (al _ _)
  have HV : Aside (Below w4.heap.size w4 ((w4.alloc O.zs).alloc O.zs)) := hzb
  have hw4 : w.heap.size + 1 + 1 < w4.heap.size := HP.out.lt
  have hr1 : w1.heap.size < w4.heap.size := HR1.out.lt
  have hr2 : w2.heap.size < w4.heap.size := HR2.out.lt
  have HZ1 : Aside (RowIs ((w4.alloc O.zs).alloc O.zs) w4.heap.size C.zs) := (RowIs.new w4 C.zs 32).below (al _ _)
  have HZ2 : Aside (RowIs ((w4.alloc O.zs).alloc O.zs) (w4.heap.size + 1) C.zs) := by
    have := RowIs.new (w4.alloc O.zs) C.zs 32
    rwa [World.size_alloc] at this
  replace HW := rW HW hzb
  replace HX := rA HX hzb
  replace HB := rA HB hzb
  replace HP := rA HP hzb
  replace HR1 := rA HR1 hzb
  replace HR2 := rA HR2 hzb
  clear hzb
  obtain ⟨d0, d1, d2, d3, d4, d5, d6, d7, d8, d9, d10, d11, d12⟩ := SRow.box HX.out
  obtain ⟨z0, z1, z2, z3, z4, z5, z6, z7, z8, z9, z10⟩ := HB.out.bbox
  have p0 := HP.out.cell 0
  have p1 := HP.out.cell 1
  go_wp2_with fail
  refine (sellOf1_ok x a b fo fc w _ HW.out HS.out HE.out (SlAt.below Fo.REnt.mono HF.out HW.out)).mono ?_
  rintro e u1 ⟨q1, z1', b1, rfl, hq1, hz1, hc1⟩
  replace HW := rW HW hc1
  replace HX := rA HX hc1
  replace HB := rA HB hc1
  replace HP := rA HP hc1
  replace HR1 := rA HR1 hc1
  replace HR2 := rA HR2 hc1
  replace HV := rW HV hc1
  replace HZ1 := rA HZ1 hc1
  replace HZ2 := rA HZ2 hc1
  clear d0 d1 d2 d3 d4 d5 d6 d7 d8 d9 d10 d11 d12 z0 z1 z2 z3 z4 z5 z6 z7 z8 z9 z10 p0 p1
  obtain ⟨rfl, rfl⟩ := sells_good HE.out HS1.out hq1
  have HQ1 : Aside (SailTw w.heap.size (w4.heap.size + 1 + 1) u1 y1 b1) := hz1.mono (by first | (simp; done) | (rw [World.size_alloc, World.size_alloc]; omega))
  clear hq1 hz1 hc1
  go_wp2_with ((with_reducible refine wpList_stO (w4.heap.size) C.zs (C.sail y1 b1) ?_ ?_ ?_ HZ1.out ?_ ?_ ?_); exact Tryz.sizeSail; rfl; rfl; rfl; exact sail_one _ _; intro s1 hr1' hg1; have hsz1 : w4.heap.size ≤ u1.heap.size := HV.out.size; replace HW := gW HW (by omega) hg1 (by omega); replace HX := gA HX hg1 (by omega); replace HB := gA HB hg1 (by omega); replace HP := gA HP hg1 (by omega); replace HR1 := gA HR1 hg1 (by omega); replace HR2 := gA HR2 hg1 (by omega); replace HV := gW HV (by omega) hg1 (by omega); replace HZ1 : Aside (SRow s1 (w4.heap.size) y1 b1) := hr1'; replace HZ2 := gA HZ2 hg1 (by omega); replace HQ1 := tG HQ1 hg1 (by omega) (by omega) (by omega); obtain ⟨d0, d1, d2, d3, d4, d5, d6, d7, d8, d9, d10, d11, d12⟩ := SRow.box HX.out; obtain ⟨z0, z1, z2, z3, z4, z5, z6, z7, z8, z9, z10⟩ := HB.out.bbox; have p0 := HP.out.cell 0; have p1 := HP.out.cell 1; clear hr1' hg1 hsz1)
  have HM2 : Aside (w4.heap.size + 1 + 1 ≤ s1.heap.size) := by have := HZ2.out.lt; show _ ≤ _; omega
  refine (sellOf2_ok x a b fo fc w _ HW.out HS.out HE.out (SlAt.below Fo.REnt.mono HF.out HW.out)).mono ?_
  rintro e u2 ⟨q2, z2', b2, rfl, hq2, hz2, hc2⟩
  replace HQ1 := tB HQ1 hc2 (by have := HV.out.size; omega)
  replace HW := rW HW hc2
  replace HX := rA HX hc2
  replace HB := rA HB hc2
  replace HP := rA HP hc2
  replace HR1 := rA HR1 hc2
  replace HR2 := rA HR2 hc2
  replace HV := rW HV hc2
  replace HZ1 := rA HZ1 hc2
  replace HZ2 := rA HZ2 hc2
  obtain ⟨rfl, rfl⟩ := sells_good HE.out HS2.out hq2
  have HQ2 : Aside (SailTw w.heap.size (w4.heap.size + 1 + 1) u2 y2 b2) := hz2.mono HM2.out
  clear d0 d1 d2 d3 d4 d5 d6 d7 d8 d9 d10 d11 d12 z0 z1 z2 z3 z4 z5 z6 z7 z8 z9 z10 p0 p1
  clear hq2 hz2 hc2
  have HOO : Aside (P.Offs x g lv f t r3 l3) := offs_good HE.out HO3.out
  clear HO3
  go_wp2_with ((with_reducible refine wpList_stO (w4.heap.size + 1) C.zs (C.sail y2 b2) ?_ ?_ ?_ HZ2.out ?_ ?_ ?_); exact Tryz.sizeSail; rfl; rfl; rfl; exact sail_one _ _; intro s2 hr2' hg2; have hsz2 : w4.heap.size ≤ u2.heap.size := HV.out.size; replace HW := gW HW (by omega) hg2 (by omega); replace HX := gA HX hg2 (by omega); replace HB := gA HB hg2 (by omega); replace HP := gA HP hg2 (by omega); replace HR1 := gA HR1 hg2 (by omega); replace HR2 := gA HR2 hg2 (by omega); replace HV := gW HV (by omega) hg2 (by omega); replace HZ1 := gA HZ1 hg2 (by omega); replace HZ2 : Aside (SRow s2 (w4.heap.size + 1) y2 b2) := hr2'; replace HQ1 := tG HQ1 hg2 (by omega) (by omega) (by omega); replace HQ2 := tG HQ2 hg2 (by omega) (by omega) (by omega); obtain ⟨d0, d1, d2, d3, d4, d5, d6, d7, d8, d9, d10, d11, d12⟩ := SRow.box HX.out; obtain ⟨z0, z1, z2, z3, z4, z5, z6, z7, z8, z9, z10⟩ := HB.out.bbox; have p0 := HP.out.cell 0; have p1 := HP.out.cell 1; clear hr2' hg2 hsz2)
  refine (Sp.checkSpan_any f t x.s.legs _).mono ?_
  rintro e w6 ⟨rfl, hb6⟩
  replace HQ1 := tB HQ1 hb6 (by have := HV.out.size; omega)
  replace HQ2 := tB HQ2 hb6 (by have := HV.out.size; omega)
  replace HW := rW HW hb6
  replace HX := rA HX hb6
  replace HB := rA HB hb6
  replace HP := rA HP hb6
  replace HR1 := rA HR1 hb6
  replace HR2 := rA HR2 hb6
  replace HV := rW HV hb6
  replace HZ1 := rA HZ1 hb6
  replace HZ2 := rA HZ2 hb6
  clear d0 d1 d2 d3 d4 d5 d6 d7 d8 d9 d10 d11 d12 z0 z1 z2 z3 z4 z5 z6 z7 z8 z9 z10 p0 p1
  clear hb6 hg1 hg4
  rw [HC.out]
  have HCN : Aside (¬ (4 : Int) = 0) := by show ¬ _; decide
  have hl : x.lvs ≤ x.day := HLX.out
  obtain ⟨e3, rfl⟩ := offs_is HOO.out (off_left HG.out HC.out HLX.out) (by first | decide | exact HCN.out)
  rw [e3]
  clear e3 HOO
  obtain ⟨d0, d1, d2, d3, d4, d5, d6, d7, d8, d9, d10, d11, d12⟩ := SRow.box HX.out
  obtain ⟨z0, z1, z2, z3, z4, z5, z6, z7, z8, z9, z10⟩ := HB.out.bbox
  have p0 := HP.out.cell 0
  have p1 := HP.out.cell 1
  go_wp2_with fail
  refine (sellBegun_any _).mono ?_
  rintro e wb ⟨rfl, hbb⟩
  replace HQ1 := tB HQ1 hbb (by have := HV.out.size; omega)
  replace HQ2 := tB HQ2 hbb (by have := HV.out.size; omega)
  replace HW := rW HW hbb
  replace HX := rA HX hbb
  replace HB := rA HB hbb
  replace HP := rA HP hbb
  replace HR1 := rA HR1 hbb
  replace HR2 := rA HR2 hbb
  replace HV := rW HV hbb
  replace HZ1 := rA HZ1 hbb
  replace HZ2 := rA HZ2 hbb
  clear d0 d1 d2 d3 d4 d5 d6 d7 d8 d9 d10 d11 d12 z0 z1 z2 z3 z4 z5 z6 z7 z8 z9 z10 p0 p1
  clear hbb
  obtain ⟨d0, d1, d2, d3, d4, d5, d6, d7, d8, d9, d10, d11, d12⟩ := SRow.box HR1.out
  obtain ⟨e0, e1, e2, e3, e4, e5, e6, e7, e8, e9, e10, e11, e12⟩ := SRow.box HZ1.out
  go_wp2_with fail
  refine (sailingIs_any r1 y1 y1 a1 b1 _ (HA1.out.below HV.out) (fun _ => ⟨rfl, HQ1.out.at⟩) (SellS.zero HS1.out)).mono ?_
  rintro e wi1 ⟨rfl, hbi1⟩
  replace HQ1 := tB HQ1 hbi1 (by have := HV.out.size; omega)
  replace HQ2 := tB HQ2 hbi1 (by have := HV.out.size; omega)
  replace HW := rW HW hbi1
  replace HX := rA HX hbi1
  replace HB := rA HB hbi1
  replace HP := rA HP hbi1
  replace HR1 := rA HR1 hbi1
  replace HR2 := rA HR2 hbi1
  replace HV := rW HV hbi1
  replace HZ1 := rA HZ1 hbi1
  replace HZ2 := rA HZ2 hbi1
  clear d0 d1 d2 d3 d4 d5 d6 d7 d8 d9 d10 d11 d12 e0 e1 e2 e3 e4 e5 e6 e7 e8 e9 e10 e11 e12 hbi1
  obtain ⟨d0, d1, d2, d3, d4, d5, d6, d7, d8, d9, d10, d11, d12⟩ := SRow.box HR2.out
  obtain ⟨e0, e1, e2, e3, e4, e5, e6, e7, e8, e9, e10, e11, e12⟩ := SRow.box HZ2.out
  go_wp2_with fail
  refine (sailingIs_any r2 y2 y2 a2 b2 _ (HA2.out.below HV.out) (fun _ => ⟨rfl, HQ2.out.at⟩) (SellS.zero HS2.out)).mono ?_
  rintro e wi2 ⟨rfl, hbi2⟩
  replace HQ1 := tB HQ1 hbi2 (by have := HV.out.size; omega)
  replace HQ2 := tB HQ2 hbi2 (by have := HV.out.size; omega)
  replace HW := rW HW hbi2
  replace HX := rA HX hbi2
  replace HB := rA HB hbi2
  replace HP := rA HP hbi2
  replace HR1 := rA HR1 hbi2
  replace HR2 := rA HR2 hbi2
  replace HV := rW HV hbi2
  replace HZ1 := rA HZ1 hbi2
  replace HZ2 := rA HZ2 hbi2
  clear d0 d1 d2 d3 d4 d5 d6 d7 d8 d9 d10 d11 d12 e0 e1 e2 e3 e4 e5 e6 e7 e8 e9 e10 e11 e12 hbi2
  go_wp2_with fail
  refine (Ma.intsAre_any _ _ _ _ ([] : List Int) ([] : List Int) 4 4 _ (SlAt.below RInt.mono HL3.out HV.out) (SlAt.nilOf _)).mono ?_
  rintro e wf ⟨rfl, hbf⟩
  replace HW := rW HW hbf
  rw [show (decide ((4 : Int) = 4) && decide (([] : List Int) = Ma.P.wantI 4 ([] : List Int))) = true by simp [Ma.P.wantI]]
  go_wp2
  go_ret
  exact ⟨rfl, HW.out⟩

end Go.Proofs.YtpjfpgimpgmhcadGreat.St
namespace Go.Proofs.YtpjfpgimpgmhcadGreat.St
open Go.RowKit Bk
set_option linter.unusedSimpArgs false
set_option linter.unusedVariables false
set_option maxRecDepth 10000

set_option maxHeartbeats 16000000 in
theorem sellTells_goodE (x : Sail) (a : SailA) (b : Bkg) (fo : Option Addr) (fc : Nat) (g : Int) (lv : Bool) (f t : Int) (w : World) (hs : SailAt w x a) (hf : Fo.EntsAt w fo fc b.fol) (HE : Aside (P.SailE x 0)) (hg1 : ¬ g < 1) (hg4 : ¬ 4 < g) (hc : P.chk f t x.s.legs = 0) (hl : ¬ x.lvs ≤ x.day) (hfu : x.bks.length = 16) :
    Calls Tryz.prog 6 #[V.sail x a, V.bk b fo fc, .int .i64 g, .bool lv, .agg #[.int .i64 f, .int .i64 t]] w fun e w' => e = .returned (.bool true) ∧ Below w.heap.size w w' := by
  have HS : Aside (SailAt w x a) := hs
  have HF : Aside (Fo.EntsAt w fo fc b.fol) := hf
  have HW : Aside (Below w.heap.size w (W.sp2 (W.bk (W.sail w x a) b fo fc) f t)) := bvia (sail_below w x a) (bvia (bk_below _ b fo fc) (by go_grown))
  have HX : Aside (SRow (W.sp2 (W.bk (W.sail w x a) b fo fc) f t) w.heap.size x a) := ((RowIs.new w _ _ : SRow (W.sail w x a) w.heap.size x a).below (bk_below _ b fo fc)).below (by go_grown)
  have HB : Aside (RowIs (W.sp2 (W.bk (W.sail w x a) b fo fc) f t) (w.heap.size + 1) (C.bk b fo fc)) := by
    have := (RowIs.new (W.sail w x a) (C.bk b fo fc) 42).below (w' := W.sp2 (W.bk (W.sail w x a) b fo fc) f t) (by go_grown)
    rwa [World.size_alloc] at this
  have HP : Aside (RowIs (W.sp2 (W.bk (W.sail w x a) b fo fc) f t) (w.heap.size + 1 + 1) #[.int .i64 f, .int .i64 t]) := by
    have := RowIs.new (W.bk (W.sail w x a) b fo fc) #[.int .i64 f, .int .i64 t] 39
    rwa [World.size_alloc, World.size_alloc] at this
  clear hs hf
  have HG : Aside (P.btw g 1 4 = true) := by show _ = _; simp [P.btw]; omega
  have HC : Aside (P.chk f t x.s.legs = 0) := hc
  have HLV : Aside (¬ x.lvs ≤ x.day) := hl
  have HFU : Aside (x.bks.length = 16) := hfu
  clear hc hl hfu
  obtain ⟨d0, d1, d2, d3, d4, d5, d6, d7, d8, d9, d10, d11, d12⟩ := SRow.box HX.out
  obtain ⟨z0, z1, z2, z3, z4, z5, z6, z7, z8, z9, z10⟩ := HB.out.bbox
  have p0 := HP.out.cell 0
  have p1 := HP.out.cell 1
  go_enter Tryz.func6, Tryz.ntmps6
  clear d0 d1 d2 d3 d4 d5 d6 d7 d8 d9 d10 d11 d12 z0 z1 z2 z3 z4 z5 z6 z7 z8 z9 z10 p0 p1
  obtain ⟨d0, d1, d2, d3, d4, d5, d6, d7, d8, d9, d10, d11, d12⟩ := SRow.box HX.out
  obtain ⟨z0, z1, z2, z3, z4, z5, z6, z7, z8, z9, z10⟩ := HB.out.bbox
  have p0 := HP.out.cell 0
  have p1 := HP.out.cell 1
  go_wp2_with fail
  refine (sellNamed_any x a b fo fc _ (HS.out.below HW.out) (SlAt.below Fo.REnt.mono HF.out HW.out)).mono ?_
  rintro e w1 ⟨r1, y1, a1, rfl, hS1, hU1, hb1⟩
  replace HW := rW HW hb1
  replace HX := rA HX hb1
  replace HB := rA HB hb1
  replace HP := rA HP hb1
  clear d0 d1 d2 d3 d4 d5 d6 d7 d8 d9 d10 d11 d12 z0 z1 z2 z3 z4 z5 z6 z7 z8 z9 z10 p0 p1
  have HS1 : Aside (P.SellS 1 x b r1 y1) := hS1
  have hs1' := sail_below w1 y1 a1
  have HA1 : Aside (SailAt (W.sail w1 y1 a1) y1 a1) := hU1.at.below hs1'
  have HR1 : Aside (SRow (W.sail w1 y1 a1) w1.heap.size y1 a1) := RowIs.new w1 _ _
  replace HW := rW HW hs1'
  replace HX := rA HX hs1'
  replace HB := rA HB hs1'
  replace HP := rA HP hs1'
  clear hS1 hU1 hb1 hs1'
  obtain ⟨d0, d1, d2, d3, d4, d5, d6, d7, d8, d9, d10, d11, d12⟩ := SRow.box HX.out
  obtain ⟨z0, z1, z2, z3, z4, z5, z6, z7, z8, z9, z10⟩ := HB.out.bbox
  have p0 := HP.out.cell 0
  have p1 := HP.out.cell 1
  go_wp2_with fail
  refine (sellPromise_any x a b fo fc _ (HS.out.below HW.out) (SlAt.below Fo.REnt.mono HF.out HW.out)).mono ?_
  rintro e w2 ⟨r2, y2, a2, rfl, hS2, hU2, hb2⟩
  replace HW := rW HW hb2
  replace HX := rA HX hb2
  replace HB := rA HB hb2
  replace HP := rA HP hb2
  replace HA1 := rS HA1 hb2
  replace HR1 := rA HR1 hb2
  clear d0 d1 d2 d3 d4 d5 d6 d7 d8 d9 d10 d11 d12 z0 z1 z2 z3 z4 z5 z6 z7 z8 z9 z10 p0 p1
  have HS2 : Aside (P.SellS 2 x b r2 y2) := hS2
  have hs2' := sail_below w2 y2 a2
  have HA2 : Aside (SailAt (W.sail w2 y2 a2) y2 a2) := hU2.at.below hs2'
  have HR2 : Aside (SRow (W.sail w2 y2 a2) w2.heap.size y2 a2) := RowIs.new w2 _ _
  replace HW := rW HW hs2'
  replace HX := rA HX hs2'
  replace HB := rA HB hs2'
  replace HP := rA HP hs2'
  replace HA1 := rS HA1 hs2'
  replace HR1 := rA HR1 hs2'
  clear hS2 hU2 hb2 hs2'
  obtain ⟨d0, d1, d2, d3, d4, d5, d6, d7, d8, d9, d10, d11, d12⟩ := SRow.box HX.out
  obtain ⟨z0, z1, z2, z3, z4, z5, z6, z7, z8, z9, z10⟩ := HB.out.bbox
  have p0 := HP.out.cell 0
  have p1 := HP.out.cell 1
  go_wp2_with fail
  refine (sellOffers_any x a g lv f t _ (HS.out.below HW.out)).mono ?_
  rintro e w3 ⟨r3, v3, l3, rfl, own3, hO3, hb3⟩
  replace HW := rW HW hb3
  replace HX := rA HX hb3
  replace HB := rA HB hb3
  replace HP := rA HP hb3
  replace HA1 := rS HA1 hb3
  replace HR1 := rA HR1 hb3
  replace HA2 := rS HA2 hb3
  replace HR2 := rA HR2 hb3
  clear d0 d1 d2 d3 d4 d5 d6 d7 d8 d9 d10 d11 d12 z0 z1 z2 z3 z4 z5 z6 z7 z8 z9 z10 p0 p1
  obtain ⟨ao3, cap3, rfl, hl3⟩ := OwnJ.at own3
  have HO3 : Aside (P.OffS x g lv f t r3 l3) := hO3
  have HL3 : Aside (IntsAt w3 ao3 cap3 l3) := hl3
  clear own3 hO3 hl3 hb3
  obtain ⟨d0, d1, d2, d3, d4, d5, d6, d7, d8, d9, d10, d11, d12⟩ := SRow.box HX.out
  obtain ⟨z0, z1, z2, z3, z4, z5, z6, z7, z8, z9, z10⟩ := HB.out.bbox
  have p0 := HP.out.cell 0
  have p1 := HP.out.cell 1
  go_wp2_with fail
  refine (refSail_any x a _ (HS.out.below HW.out)).mono ?_
  rintro e w4 ⟨v4, rfl, hv, hb4⟩
  replace HW := rW HW hb4
  replace HX := rA HX hb4
  replace HB := rA HB hb4
  replace HP := rA HP hb4
  replace HA1 := rS HA1 hb4
  replace HR1 := rA HR1 hb4
  replace HA2 := rS HA2 hb4
  replace HR2 := rA HR2 hb4
  replace HL3 := rI HL3 hb4
  clear d0 d1 d2 d3 d4 d5 d6 d7 d8 d9 d10 d11 d12 z0 z1 z2 z3 z4 z5 z6 z7 z8 z9 z10 p0 p1
  obtain rfl := SailE.one HE.out hv
  clear hv hb4
  have hzb : Below w4.heap.size w4 ((w4.alloc O.zs).alloc O.zs) := bvia (al _ _) (al _ _)
  have HV : Aside (Below w4.heap.size w4 ((w4.alloc O.zs).alloc O.zs)) := hzb
  have hw4 : w.heap.size + 1 + 1 < w4.heap.size := HP.out.lt
  have hr1 : w1.heap.size < w4.heap.size := HR1.out.lt
  have hr2 : w2.heap.size < w4.heap.size := HR2.out.lt
  have HZ1 : Aside (RowIs ((w4.alloc O.zs).alloc O.zs) w4.heap.size C.zs) := (RowIs.new w4 C.zs 32).below (al _ _)
  have HZ2 : Aside (RowIs ((w4.alloc O.zs).alloc O.zs) (w4.heap.size + 1) C.zs) := by
    have := RowIs.new (w4.alloc O.zs) C.zs 32
    rwa [World.size_alloc] at this
  replace HW := rW HW hzb
  replace HX := rA HX hzb
  replace HB := rA HB hzb
  replace HP := rA HP hzb
  replace HR1 := rA HR1 hzb
  replace HR2 := rA HR2 hzb
  clear hzb
  obtain ⟨d0, d1, d2, d3, d4, d5, d6, d7, d8, d9, d10, d11, d12⟩ := SRow.box HX.out
  obtain ⟨z0, z1, z2, z3, z4, z5, z6, z7, z8, z9, z10⟩ := HB.out.bbox
  have p0 := HP.out.cell 0
  have p1 := HP.out.cell 1
  go_wp2_with fail
  refine (sellOf1_ok x a b fo fc w _ HW.out HS.out HE.out (SlAt.below Fo.REnt.mono HF.out HW.out)).mono ?_
  rintro e u1 ⟨q1, z1', b1, rfl, hq1, hz1, hc1⟩
  replace HW := rW HW hc1
  replace HX := rA HX hc1
  replace HB := rA HB hc1
  replace HP := rA HP hc1
  replace HR1 := rA HR1 hc1
  replace HR2 := rA HR2 hc1
  replace HV := rW HV hc1
  replace HZ1 := rA HZ1 hc1
  replace HZ2 := rA HZ2 hc1
  clear d0 d1 d2 d3 d4 d5 d6 d7 d8 d9 d10 d11 d12 z0 z1 z2 z3 z4 z5 z6 z7 z8 z9 z10 p0 p1
  obtain ⟨rfl, rfl⟩ := sells_good HE.out HS1.out hq1
  have HQ1 : Aside (SailTw w.heap.size (w4.heap.size + 1 + 1) u1 y1 b1) := hz1.mono (by first | (simp; done) | (rw [World.size_alloc, World.size_alloc]; omega))
  clear hq1 hz1 hc1
  go_wp2_with ((with_reducible refine wpList_stO (w4.heap.size) C.zs (C.sail y1 b1) ?_ ?_ ?_ HZ1.out ?_ ?_ ?_); exact Tryz.sizeSail; rfl; rfl; rfl; exact sail_one _ _; intro s1 hr1' hg1; have hsz1 : w4.heap.size ≤ u1.heap.size := HV.out.size; replace HW := gW HW (by omega) hg1 (by omega); replace HX := gA HX hg1 (by omega); replace HB := gA HB hg1 (by omega); replace HP := gA HP hg1 (by omega); replace HR1 := gA HR1 hg1 (by omega); replace HR2 := gA HR2 hg1 (by omega); replace HV := gW HV (by omega) hg1 (by omega); replace HZ1 : Aside (SRow s1 (w4.heap.size) y1 b1) := hr1'; replace HZ2 := gA HZ2 hg1 (by omega); replace HQ1 := tG HQ1 hg1 (by omega) (by omega) (by omega); obtain ⟨d0, d1, d2, d3, d4, d5, d6, d7, d8, d9, d10, d11, d12⟩ := SRow.box HX.out; obtain ⟨z0, z1, z2, z3, z4, z5, z6, z7, z8, z9, z10⟩ := HB.out.bbox; have p0 := HP.out.cell 0; have p1 := HP.out.cell 1; clear hr1' hg1 hsz1)
  have HM2 : Aside (w4.heap.size + 1 + 1 ≤ s1.heap.size) := by have := HZ2.out.lt; show _ ≤ _; omega
  refine (sellOf2_ok x a b fo fc w _ HW.out HS.out HE.out (SlAt.below Fo.REnt.mono HF.out HW.out)).mono ?_
  rintro e u2 ⟨q2, z2', b2, rfl, hq2, hz2, hc2⟩
  replace HQ1 := tB HQ1 hc2 (by have := HV.out.size; omega)
  replace HW := rW HW hc2
  replace HX := rA HX hc2
  replace HB := rA HB hc2
  replace HP := rA HP hc2
  replace HR1 := rA HR1 hc2
  replace HR2 := rA HR2 hc2
  replace HV := rW HV hc2
  replace HZ1 := rA HZ1 hc2
  replace HZ2 := rA HZ2 hc2
  obtain ⟨rfl, rfl⟩ := sells_good HE.out HS2.out hq2
  have HQ2 : Aside (SailTw w.heap.size (w4.heap.size + 1 + 1) u2 y2 b2) := hz2.mono HM2.out
  clear d0 d1 d2 d3 d4 d5 d6 d7 d8 d9 d10 d11 d12 z0 z1 z2 z3 z4 z5 z6 z7 z8 z9 z10 p0 p1
  clear hq2 hz2 hc2
  have HOO : Aside (P.Offs x g lv f t r3 l3) := offs_good HE.out HO3.out
  clear HO3
  go_wp2_with ((with_reducible refine wpList_stO (w4.heap.size + 1) C.zs (C.sail y2 b2) ?_ ?_ ?_ HZ2.out ?_ ?_ ?_); exact Tryz.sizeSail; rfl; rfl; rfl; exact sail_one _ _; intro s2 hr2' hg2; have hsz2 : w4.heap.size ≤ u2.heap.size := HV.out.size; replace HW := gW HW (by omega) hg2 (by omega); replace HX := gA HX hg2 (by omega); replace HB := gA HB hg2 (by omega); replace HP := gA HP hg2 (by omega); replace HR1 := gA HR1 hg2 (by omega); replace HR2 := gA HR2 hg2 (by omega); replace HV := gW HV (by omega) hg2 (by omega); replace HZ1 := gA HZ1 hg2 (by omega); replace HZ2 : Aside (SRow s2 (w4.heap.size + 1) y2 b2) := hr2'; replace HQ1 := tG HQ1 hg2 (by omega) (by omega) (by omega); replace HQ2 := tG HQ2 hg2 (by omega) (by omega) (by omega); obtain ⟨d0, d1, d2, d3, d4, d5, d6, d7, d8, d9, d10, d11, d12⟩ := SRow.box HX.out; obtain ⟨z0, z1, z2, z3, z4, z5, z6, z7, z8, z9, z10⟩ := HB.out.bbox; have p0 := HP.out.cell 0; have p1 := HP.out.cell 1; clear hr2' hg2 hsz2)
  refine (Sp.checkSpan_any f t x.s.legs _).mono ?_
  rintro e w6 ⟨rfl, hb6⟩
  replace HQ1 := tB HQ1 hb6 (by have := HV.out.size; omega)
  replace HQ2 := tB HQ2 hb6 (by have := HV.out.size; omega)
  replace HW := rW HW hb6
  replace HX := rA HX hb6
  replace HB := rA HB hb6
  replace HP := rA HP hb6
  replace HR1 := rA HR1 hb6
  replace HR2 := rA HR2 hb6
  replace HV := rW HV hb6
  replace HZ1 := rA HZ1 hb6
  replace HZ2 := rA HZ2 hb6
  clear d0 d1 d2 d3 d4 d5 d6 d7 d8 d9 d10 d11 d12 z0 z1 z2 z3 z4 z5 z6 z7 z8 z9 z10 p0 p1
  clear hb6 hg1 hg4
  rw [HC.out]
  have hl : ¬ x.lvs ≤ x.day := by first | exact HLV.out | exact Int.not_le.2 HLV.out
  have HCN : Aside (¬ (2 : Int) = 0) := by show ¬ _; decide
  have hf2 : ((x.bks.length : Int) == 16) = true := by have := HFU.out; simp; omega
  obtain ⟨e3, rfl⟩ := offs_is HOO.out (off_full HG.out HC.out hl (by have := HFU.out; omega)) (by first | decide | exact HCN.out)
  rw [e3]
  clear e3 HOO
  obtain ⟨d0, d1, d2, d3, d4, d5, d6, d7, d8, d9, d10, d11, d12⟩ := SRow.box HX.out
  obtain ⟨z0, z1, z2, z3, z4, z5, z6, z7, z8, z9, z10⟩ := HB.out.bbox
  have p0 := HP.out.cell 0
  have p1 := HP.out.cell 1
  go_wp2_with fail
  refine (sellBegun_any _).mono ?_
  rintro e wb ⟨rfl, hbb⟩
  replace HQ1 := tB HQ1 hbb (by have := HV.out.size; omega)
  replace HQ2 := tB HQ2 hbb (by have := HV.out.size; omega)
  replace HW := rW HW hbb
  replace HX := rA HX hbb
  replace HB := rA HB hbb
  replace HP := rA HP hbb
  replace HR1 := rA HR1 hbb
  replace HR2 := rA HR2 hbb
  replace HV := rW HV hbb
  replace HZ1 := rA HZ1 hbb
  replace HZ2 := rA HZ2 hbb
  clear d0 d1 d2 d3 d4 d5 d6 d7 d8 d9 d10 d11 d12 z0 z1 z2 z3 z4 z5 z6 z7 z8 z9 z10 p0 p1
  clear hbb
  obtain ⟨d0, d1, d2, d3, d4, d5, d6, d7, d8, d9, d10, d11, d12⟩ := SRow.box HR1.out
  obtain ⟨e0, e1, e2, e3, e4, e5, e6, e7, e8, e9, e10, e11, e12⟩ := SRow.box HZ1.out
  go_wp2_with fail
  refine (sailingIs_any r1 y1 y1 a1 b1 _ (HA1.out.below HV.out) (fun _ => ⟨rfl, HQ1.out.at⟩) (SellS.zero HS1.out)).mono ?_
  rintro e wi1 ⟨rfl, hbi1⟩
  replace HQ1 := tB HQ1 hbi1 (by have := HV.out.size; omega)
  replace HQ2 := tB HQ2 hbi1 (by have := HV.out.size; omega)
  replace HW := rW HW hbi1
  replace HX := rA HX hbi1
  replace HB := rA HB hbi1
  replace HP := rA HP hbi1
  replace HR1 := rA HR1 hbi1
  replace HR2 := rA HR2 hbi1
  replace HV := rW HV hbi1
  replace HZ1 := rA HZ1 hbi1
  replace HZ2 := rA HZ2 hbi1
  clear d0 d1 d2 d3 d4 d5 d6 d7 d8 d9 d10 d11 d12 e0 e1 e2 e3 e4 e5 e6 e7 e8 e9 e10 e11 e12 hbi1
  obtain ⟨d0, d1, d2, d3, d4, d5, d6, d7, d8, d9, d10, d11, d12⟩ := SRow.box HR2.out
  obtain ⟨e0, e1, e2, e3, e4, e5, e6, e7, e8, e9, e10, e11, e12⟩ := SRow.box HZ2.out
  go_wp2_with fail
  refine (sailingIs_any r2 y2 y2 a2 b2 _ (HA2.out.below HV.out) (fun _ => ⟨rfl, HQ2.out.at⟩) (SellS.zero HS2.out)).mono ?_
  rintro e wi2 ⟨rfl, hbi2⟩
  replace HQ1 := tB HQ1 hbi2 (by have := HV.out.size; omega)
  replace HQ2 := tB HQ2 hbi2 (by have := HV.out.size; omega)
  replace HW := rW HW hbi2
  replace HX := rA HX hbi2
  replace HB := rA HB hbi2
  replace HP := rA HP hbi2
  replace HR1 := rA HR1 hbi2
  replace HR2 := rA HR2 hbi2
  replace HV := rW HV hbi2
  replace HZ1 := rA HZ1 hbi2
  replace HZ2 := rA HZ2 hbi2
  clear d0 d1 d2 d3 d4 d5 d6 d7 d8 d9 d10 d11 d12 e0 e1 e2 e3 e4 e5 e6 e7 e8 e9 e10 e11 e12 hbi2
  go_wp2_with fail
  refine (Ma.intsAre_any _ _ _ _ ([] : List Int) ([] : List Int) 2 2 _ (SlAt.below RInt.mono HL3.out HV.out) (SlAt.nilOf _)).mono ?_
  rintro e wf ⟨rfl, hbf⟩
  replace HW := rW HW hbf
  rw [show (decide ((2 : Int) = 2) && decide (([] : List Int) = Ma.P.wantI 2 ([] : List Int))) = true by simp [Ma.P.wantI]]
  go_wp2
  go_ret
  exact ⟨rfl, HW.out⟩

set_option maxHeartbeats 16000000 in
theorem sellTells_goodF (x : Sail) (a : SailA) (b : Bkg) (fo : Option Addr) (fc : Nat) (g : Int) (lv : Bool) (f t : Int) (w : World) (hs : SailAt w x a) (hf : Fo.EntsAt w fo fc b.fol) (HE : Aside (P.SailE x 0)) (hg1 : ¬ g < 1) (hg4 : ¬ 4 < g) (hc : P.chk f t x.s.legs = 0) (hl : ¬ x.lvs ≤ x.day) (hfu : ¬ x.bks.length = 16) :
    Calls Tryz.prog 6 #[V.sail x a, V.bk b fo fc, .int .i64 g, .bool lv, .agg #[.int .i64 f, .int .i64 t]] w fun e w' => e = .returned (.bool true) ∧ Below w.heap.size w w' := by
  have HS : Aside (SailAt w x a) := hs
  have HF : Aside (Fo.EntsAt w fo fc b.fol) := hf
  have HW : Aside (Below w.heap.size w (W.sp2 (W.bk (W.sail w x a) b fo fc) f t)) := bvia (sail_below w x a) (bvia (bk_below _ b fo fc) (by go_grown))
  have HX : Aside (SRow (W.sp2 (W.bk (W.sail w x a) b fo fc) f t) w.heap.size x a) := ((RowIs.new w _ _ : SRow (W.sail w x a) w.heap.size x a).below (bk_below _ b fo fc)).below (by go_grown)
  have HB : Aside (RowIs (W.sp2 (W.bk (W.sail w x a) b fo fc) f t) (w.heap.size + 1) (C.bk b fo fc)) := by
    have := (RowIs.new (W.sail w x a) (C.bk b fo fc) 42).below (w' := W.sp2 (W.bk (W.sail w x a) b fo fc) f t) (by go_grown)
    rwa [World.size_alloc] at this
  have HP : Aside (RowIs (W.sp2 (W.bk (W.sail w x a) b fo fc) f t) (w.heap.size + 1 + 1) #[.int .i64 f, .int .i64 t]) := by
    have := RowIs.new (W.bk (W.sail w x a) b fo fc) #[.int .i64 f, .int .i64 t] 39
    rwa [World.size_alloc, World.size_alloc] at this
  clear hs hf
  have HG : Aside (P.btw g 1 4 = true) := by show _ = _; simp [P.btw]; omega
  have HC : Aside (P.chk f t x.s.legs = 0) := hc
  have HLV : Aside (¬ x.lvs ≤ x.day) := hl
  have HFU : Aside (¬ x.bks.length = 16) := hfu
  clear hc hl hfu
  obtain ⟨d0, d1, d2, d3, d4, d5, d6, d7, d8, d9, d10, d11, d12⟩ := SRow.box HX.out
  obtain ⟨z0, z1, z2, z3, z4, z5, z6, z7, z8, z9, z10⟩ := HB.out.bbox
  have p0 := HP.out.cell 0
  have p1 := HP.out.cell 1
  go_enter Tryz.func6, Tryz.ntmps6
  clear d0 d1 d2 d3 d4 d5 d6 d7 d8 d9 d10 d11 d12 z0 z1 z2 z3 z4 z5 z6 z7 z8 z9 z10 p0 p1
  obtain ⟨d0, d1, d2, d3, d4, d5, d6, d7, d8, d9, d10, d11, d12⟩ := SRow.box HX.out
  obtain ⟨z0, z1, z2, z3, z4, z5, z6, z7, z8, z9, z10⟩ := HB.out.bbox
  have p0 := HP.out.cell 0
  have p1 := HP.out.cell 1
  go_wp2_with fail
  refine (sellNamed_any x a b fo fc _ (HS.out.below HW.out) (SlAt.below Fo.REnt.mono HF.out HW.out)).mono ?_
  rintro e w1 ⟨r1, y1, a1, rfl, hS1, hU1, hb1⟩
  replace HW := rW HW hb1
  replace HX := rA HX hb1
  replace HB := rA HB hb1
  replace HP := rA HP hb1
  clear d0 d1 d2 d3 d4 d5 d6 d7 d8 d9 d10 d11 d12 z0 z1 z2 z3 z4 z5 z6 z7 z8 z9 z10 p0 p1
  have HS1 : Aside (P.SellS 1 x b r1 y1) := hS1
  have hs1' := sail_below w1 y1 a1
  have HA1 : Aside (SailAt (W.sail w1 y1 a1) y1 a1) := hU1.at.below hs1'
  have HR1 : Aside (SRow (W.sail w1 y1 a1) w1.heap.size y1 a1) := RowIs.new w1 _ _
  replace HW := rW HW hs1'
  replace HX := rA HX hs1'
  replace HB := rA HB hs1'
  replace HP := rA HP hs1'
  clear hS1 hU1 hb1 hs1'
  obtain ⟨d0, d1, d2, d3, d4, d5, d6, d7, d8, d9, d10, d11, d12⟩ := SRow.box HX.out
  obtain ⟨z0, z1, z2, z3, z4, z5, z6, z7, z8, z9, z10⟩ := HB.out.bbox
  have p0 := HP.out.cell 0
  have p1 := HP.out.cell 1
  go_wp2_with fail
  refine (sellPromise_any x a b fo fc _ (HS.out.below HW.out) (SlAt.below Fo.REnt.mono HF.out HW.out)).mono ?_
  rintro e w2 ⟨r2, y2, a2, rfl, hS2, hU2, hb2⟩
  replace HW := rW HW hb2
  replace HX := rA HX hb2
  replace HB := rA HB hb2
  replace HP := rA HP hb2
  replace HA1 := rS HA1 hb2
  replace HR1 := rA HR1 hb2
  clear d0 d1 d2 d3 d4 d5 d6 d7 d8 d9 d10 d11 d12 z0 z1 z2 z3 z4 z5 z6 z7 z8 z9 z10 p0 p1
  have HS2 : Aside (P.SellS 2 x b r2 y2) := hS2
  have hs2' := sail_below w2 y2 a2
  have HA2 : Aside (SailAt (W.sail w2 y2 a2) y2 a2) := hU2.at.below hs2'
  have HR2 : Aside (SRow (W.sail w2 y2 a2) w2.heap.size y2 a2) := RowIs.new w2 _ _
  replace HW := rW HW hs2'
  replace HX := rA HX hs2'
  replace HB := rA HB hs2'
  replace HP := rA HP hs2'
  replace HA1 := rS HA1 hs2'
  replace HR1 := rA HR1 hs2'
  clear hS2 hU2 hb2 hs2'
  obtain ⟨d0, d1, d2, d3, d4, d5, d6, d7, d8, d9, d10, d11, d12⟩ := SRow.box HX.out
  obtain ⟨z0, z1, z2, z3, z4, z5, z6, z7, z8, z9, z10⟩ := HB.out.bbox
  have p0 := HP.out.cell 0
  have p1 := HP.out.cell 1
  go_wp2_with fail
  refine (sellOffers_any x a g lv f t _ (HS.out.below HW.out)).mono ?_
  rintro e w3 ⟨r3, v3, l3, rfl, own3, hO3, hb3⟩
  replace HW := rW HW hb3
  replace HX := rA HX hb3
  replace HB := rA HB hb3
  replace HP := rA HP hb3
  replace HA1 := rS HA1 hb3
  replace HR1 := rA HR1 hb3
  replace HA2 := rS HA2 hb3
  replace HR2 := rA HR2 hb3
  clear d0 d1 d2 d3 d4 d5 d6 d7 d8 d9 d10 d11 d12 z0 z1 z2 z3 z4 z5 z6 z7 z8 z9 z10 p0 p1
  obtain ⟨ao3, cap3, rfl, hl3⟩ := OwnJ.at own3
  have HO3 : Aside (P.OffS x g lv f t r3 l3) := hO3
  have HL3 : Aside (IntsAt w3 ao3 cap3 l3) := hl3
  clear own3 hO3 hl3 hb3
  obtain ⟨d0, d1, d2, d3, d4, d5, d6, d7, d8, d9, d10, d11, d12⟩ := SRow.box HX.out
  obtain ⟨z0, z1, z2, z3, z4, z5, z6, z7, z8, z9, z10⟩ := HB.out.bbox
  have p0 := HP.out.cell 0
  have p1 := HP.out.cell 1
  go_wp2_with fail
  refine (refSail_any x a _ (HS.out.below HW.out)).mono ?_
  rintro e w4 ⟨v4, rfl, hv, hb4⟩
  replace HW := rW HW hb4
  replace HX := rA HX hb4
  replace HB := rA HB hb4
  replace HP := rA HP hb4
  replace HA1 := rS HA1 hb4
  replace HR1 := rA HR1 hb4
  replace HA2 := rS HA2 hb4
  replace HR2 := rA HR2 hb4
  replace HL3 := rI HL3 hb4
  clear d0 d1 d2 d3 d4 d5 d6 d7 d8 d9 d10 d11 d12 z0 z1 z2 z3 z4 z5 z6 z7 z8 z9 z10 p0 p1
  obtain rfl := SailE.one HE.out hv
  clear hv hb4
  have hzb : Below w4.heap.size w4 ((w4.alloc O.zs).alloc O.zs) := bvia (al _ _) (al _ _)
  have HV : Aside (Below w4.heap.size w4 ((w4.alloc O.zs).alloc O.zs)) := hzb
  have hw4 : w.heap.size + 1 + 1 < w4.heap.size := HP.out.lt
  have hr1 : w1.heap.size < w4.heap.size := HR1.out.lt
  have hr2 : w2.heap.size < w4.heap.size := HR2.out.lt
  have HZ1 : Aside (RowIs ((w4.alloc O.zs).alloc O.zs) w4.heap.size C.zs) := (RowIs.new w4 C.zs 32).below (al _ _)
  have HZ2 : Aside (RowIs ((w4.alloc O.zs).alloc O.zs) (w4.heap.size + 1) C.zs) := by
    have := RowIs.new (w4.alloc O.zs) C.zs 32
    rwa [World.size_alloc] at this
  replace HW := rW HW hzb
  replace HX := rA HX hzb
  replace HB := rA HB hzb
  replace HP := rA HP hzb
  replace HR1 := rA HR1 hzb
  replace HR2 := rA HR2 hzb
  clear hzb
  obtain ⟨d0, d1, d2, d3, d4, d5, d6, d7, d8, d9, d10, d11, d12⟩ := SRow.box HX.out
  obtain ⟨z0, z1, z2, z3, z4, z5, z6, z7, z8, z9, z10⟩ := HB.out.bbox
  have p0 := HP.out.cell 0
  have p1 := HP.out.cell 1
  go_wp2_with fail
  refine (sellOf1_ok x a b fo fc w _ HW.out HS.out HE.out (SlAt.below Fo.REnt.mono HF.out HW.out)).mono ?_
  rintro e u1 ⟨q1, z1', b1, rfl, hq1, hz1, hc1⟩
  replace HW := rW HW hc1
  replace HX := rA HX hc1
  replace HB := rA HB hc1
  replace HP := rA HP hc1
  replace HR1 := rA HR1 hc1
  replace HR2 := rA HR2 hc1
  replace HV := rW HV hc1
  replace HZ1 := rA HZ1 hc1
  replace HZ2 := rA HZ2 hc1
  clear d0 d1 d2 d3 d4 d5 d6 d7 d8 d9 d10 d11 d12 z0 z1 z2 z3 z4 z5 z6 z7 z8 z9 z10 p0 p1
  obtain ⟨rfl, rfl⟩ := sells_good HE.out HS1.out hq1
  have HQ1 : Aside (SailTw w.heap.size (w4.heap.size + 1 + 1) u1 y1 b1) := hz1.mono (by first | (simp; done) | (rw [World.size_alloc, World.size_alloc]; omega))
  clear hq1 hz1 hc1
  go_wp2_with ((with_reducible refine wpList_stO (w4.heap.size) C.zs (C.sail y1 b1) ?_ ?_ ?_ HZ1.out ?_ ?_ ?_); exact Tryz.sizeSail; rfl; rfl; rfl; exact sail_one _ _; intro s1 hr1' hg1; have hsz1 : w4.heap.size ≤ u1.heap.size := HV.out.size; replace HW := gW HW (by omega) hg1 (by omega); replace HX := gA HX hg1 (by omega); replace HB := gA HB hg1 (by omega); replace HP := gA HP hg1 (by omega); replace HR1 := gA HR1 hg1 (by omega); replace HR2 := gA HR2 hg1 (by omega); replace HV := gW HV (by omega) hg1 (by omega); replace HZ1 : Aside (SRow s1 (w4.heap.size) y1 b1) := hr1'; replace HZ2 := gA HZ2 hg1 (by omega); replace HQ1 := tG HQ1 hg1 (by omega) (by omega) (by omega); obtain ⟨d0, d1, d2, d3, d4, d5, d6, d7, d8, d9, d10, d11, d12⟩ := SRow.box HX.out; obtain ⟨z0, z1, z2, z3, z4, z5, z6, z7, z8, z9, z10⟩ := HB.out.bbox; have p0 := HP.out.cell 0; have p1 := HP.out.cell 1; clear hr1' hg1 hsz1)
  have HM2 : Aside (w4.heap.size + 1 + 1 ≤ s1.heap.size) := by have := HZ2.out.lt; show _ ≤ _; omega
  refine (sellOf2_ok x a b fo fc w _ HW.out HS.out HE.out (SlAt.below Fo.REnt.mono HF.out HW.out)).mono ?_
  rintro e u2 ⟨q2, z2', b2, rfl, hq2, hz2, hc2⟩
  replace HQ1 := tB HQ1 hc2 (by have := HV.out.size; omega)
  replace HW := rW HW hc2
  replace HX := rA HX hc2
  replace HB := rA HB hc2
  replace HP := rA HP hc2
  replace HR1 := rA HR1 hc2
  replace HR2 := rA HR2 hc2
  replace HV := rW HV hc2
  replace HZ1 := rA HZ1 hc2
  replace HZ2 := rA HZ2 hc2
  obtain ⟨rfl, rfl⟩ := sells_good HE.out HS2.out hq2
  have HQ2 : Aside (SailTw w.heap.size (w4.heap.size + 1 + 1) u2 y2 b2) := hz2.mono HM2.out
  clear d0 d1 d2 d3 d4 d5 d6 d7 d8 d9 d10 d11 d12 z0 z1 z2 z3 z4 z5 z6 z7 z8 z9 z10 p0 p1
  clear hq2 hz2 hc2
  have HOO : Aside (P.Offs x g lv f t r3 l3) := offs_good HE.out HO3.out
  clear HO3
  go_wp2_with ((with_reducible refine wpList_stO (w4.heap.size + 1) C.zs (C.sail y2 b2) ?_ ?_ ?_ HZ2.out ?_ ?_ ?_); exact Tryz.sizeSail; rfl; rfl; rfl; exact sail_one _ _; intro s2 hr2' hg2; have hsz2 : w4.heap.size ≤ u2.heap.size := HV.out.size; replace HW := gW HW (by omega) hg2 (by omega); replace HX := gA HX hg2 (by omega); replace HB := gA HB hg2 (by omega); replace HP := gA HP hg2 (by omega); replace HR1 := gA HR1 hg2 (by omega); replace HR2 := gA HR2 hg2 (by omega); replace HV := gW HV (by omega) hg2 (by omega); replace HZ1 := gA HZ1 hg2 (by omega); replace HZ2 : Aside (SRow s2 (w4.heap.size + 1) y2 b2) := hr2'; replace HQ1 := tG HQ1 hg2 (by omega) (by omega) (by omega); replace HQ2 := tG HQ2 hg2 (by omega) (by omega) (by omega); obtain ⟨d0, d1, d2, d3, d4, d5, d6, d7, d8, d9, d10, d11, d12⟩ := SRow.box HX.out; obtain ⟨z0, z1, z2, z3, z4, z5, z6, z7, z8, z9, z10⟩ := HB.out.bbox; have p0 := HP.out.cell 0; have p1 := HP.out.cell 1; clear hr2' hg2 hsz2)
  refine (Sp.checkSpan_any f t x.s.legs _).mono ?_
  rintro e w6 ⟨rfl, hb6⟩
  replace HQ1 := tB HQ1 hb6 (by have := HV.out.size; omega)
  replace HQ2 := tB HQ2 hb6 (by have := HV.out.size; omega)
  replace HW := rW HW hb6
  replace HX := rA HX hb6
  replace HB := rA HB hb6
  replace HP := rA HP hb6
  replace HR1 := rA HR1 hb6
  replace HR2 := rA HR2 hb6
  replace HV := rW HV hb6
  replace HZ1 := rA HZ1 hb6
  replace HZ2 := rA HZ2 hb6
  clear d0 d1 d2 d3 d4 d5 d6 d7 d8 d9 d10 d11 d12 z0 z1 z2 z3 z4 z5 z6 z7 z8 z9 z10 p0 p1
  clear hb6 hg1 hg4
  rw [HC.out]
  have hl : ¬ x.lvs ≤ x.day := by first | exact HLV.out | exact Int.not_le.2 HLV.out
  have h16 : x.bks.length ≤ 16 := (sail_ok HE.out).2.2.2.2.1
  have hf2 : ((x.bks.length : Int) == 16) = false := by have := HFU.out; simp; omega
  have HOK : Aside (P.offE x g f t = 0) := off_ok HG.out HC.out hl (by have := HFU.out; omega)
  clear h16
  obtain ⟨d0, d1, d2, d3, d4, d5, d6, d7, d8, d9, d10, d11, d12⟩ := SRow.box HX.out
  obtain ⟨z0, z1, z2, z3, z4, z5, z6, z7, z8, z9, z10⟩ := HB.out.bbox
  have p0 := HP.out.cell 0
  have p1 := HP.out.cell 1
  go_wp2_with fail
  refine (offersOf_ok x a g lv f t _ (HS.out.below HW.out) HE.out).mono ?_
  rintro e w7 ⟨n7, v7, l7, rfl, hn7, own7, ho7, hb7⟩
  replace HQ1 := tB HQ1 hb7 (by have := HV.out.size; omega)
  replace HQ2 := tB HQ2 hb7 (by have := HV.out.size; omega)
  replace HW := rW HW hb7
  replace HX := rA HX hb7
  replace HB := rA HB hb7
  replace HP := rA HP hb7
  replace HR1 := rA HR1 hb7
  replace HR2 := rA HR2 hb7
  replace HV := rW HV hb7
  replace HZ1 := rA HZ1 hb7
  replace HZ2 := rA HZ2 hb7
  clear d0 d1 d2 d3 d4 d5 d6 d7 d8 d9 d10 d11 d12 z0 z1 z2 z3 z4 z5 z6 z7 z8 z9 z10 p0 p1
  obtain ⟨ao7, cap7, rfl, hl7⟩ := OwnJ.at own7
  have HL7 : Aside (IntsAt w7 ao7 cap7 l7) := hl7
  obtain ⟨e3, rfl⟩ := offs_list HOO.out HOK.out hn7 ho7
  rw [e3]
  clear own7 hl7 hn7 ho7 hb7 e3 HOO hl hf2
  obtain ⟨d0, d1, d2, d3, d4, d5, d6, d7, d8, d9, d10, d11, d12⟩ := SRow.box HX.out
  obtain ⟨z0, z1, z2, z3, z4, z5, z6, z7, z8, z9, z10⟩ := HB.out.bbox
  have p0 := HP.out.cell 0
  have p1 := HP.out.cell 1
  go_wp2_with fail
  refine (sellBegun_any _).mono ?_
  rintro e wb ⟨rfl, hbb⟩
  replace HQ1 := tB HQ1 hbb (by have := HV.out.size; omega)
  replace HQ2 := tB HQ2 hbb (by have := HV.out.size; omega)
  replace HW := rW HW hbb
  replace HX := rA HX hbb
  replace HB := rA HB hbb
  replace HP := rA HP hbb
  replace HR1 := rA HR1 hbb
  replace HR2 := rA HR2 hbb
  replace HV := rW HV hbb
  replace HZ1 := rA HZ1 hbb
  replace HZ2 := rA HZ2 hbb
  replace HL7 := rI HL7 hbb
  clear d0 d1 d2 d3 d4 d5 d6 d7 d8 d9 d10 d11 d12 z0 z1 z2 z3 z4 z5 z6 z7 z8 z9 z10 p0 p1
  clear hbb
  obtain ⟨d0, d1, d2, d3, d4, d5, d6, d7, d8, d9, d10, d11, d12⟩ := SRow.box HR1.out
  obtain ⟨e0, e1, e2, e3, e4, e5, e6, e7, e8, e9, e10, e11, e12⟩ := SRow.box HZ1.out
  go_wp2_with fail
  refine (sailingIs_any r1 y1 y1 a1 b1 _ (HA1.out.below HV.out) (fun _ => ⟨rfl, HQ1.out.at⟩) (SellS.zero HS1.out)).mono ?_
  rintro e wi1 ⟨rfl, hbi1⟩
  replace HQ1 := tB HQ1 hbi1 (by have := HV.out.size; omega)
  replace HQ2 := tB HQ2 hbi1 (by have := HV.out.size; omega)
  replace HW := rW HW hbi1
  replace HX := rA HX hbi1
  replace HB := rA HB hbi1
  replace HP := rA HP hbi1
  replace HR1 := rA HR1 hbi1
  replace HR2 := rA HR2 hbi1
  replace HV := rW HV hbi1
  replace HZ1 := rA HZ1 hbi1
  replace HZ2 := rA HZ2 hbi1
  replace HL7 := rI HL7 hbi1
  clear d0 d1 d2 d3 d4 d5 d6 d7 d8 d9 d10 d11 d12 e0 e1 e2 e3 e4 e5 e6 e7 e8 e9 e10 e11 e12 hbi1
  obtain ⟨d0, d1, d2, d3, d4, d5, d6, d7, d8, d9, d10, d11, d12⟩ := SRow.box HR2.out
  obtain ⟨e0, e1, e2, e3, e4, e5, e6, e7, e8, e9, e10, e11, e12⟩ := SRow.box HZ2.out
  go_wp2_with fail
  refine (sailingIs_any r2 y2 y2 a2 b2 _ (HA2.out.below HV.out) (fun _ => ⟨rfl, HQ2.out.at⟩) (SellS.zero HS2.out)).mono ?_
  rintro e wi2 ⟨rfl, hbi2⟩
  replace HQ1 := tB HQ1 hbi2 (by have := HV.out.size; omega)
  replace HQ2 := tB HQ2 hbi2 (by have := HV.out.size; omega)
  replace HW := rW HW hbi2
  replace HX := rA HX hbi2
  replace HB := rA HB hbi2
  replace HP := rA HP hbi2
  replace HR1 := rA HR1 hbi2
  replace HR2 := rA HR2 hbi2
  replace HV := rW HV hbi2
  replace HZ1 := rA HZ1 hbi2
  replace HZ2 := rA HZ2 hbi2
  replace HL7 := rI HL7 hbi2
  clear d0 d1 d2 d3 d4 d5 d6 d7 d8 d9 d10 d11 d12 e0 e1 e2 e3 e4 e5 e6 e7 e8 e9 e10 e11 e12 hbi2
  go_wp2_with fail
  refine (Ma.intsAre_any _ _ _ _ l3 l3 0 0 _ (SlAt.below RInt.mono HL3.out HV.out) HL7.out).mono ?_
  rintro e wf ⟨rfl, hbf⟩
  replace HW := rW HW hbf
  rw [show (decide ((0 : Int) = 0) && decide (l3 = Ma.P.wantI 0 l3)) = true by simp [Ma.P.wantI]]
  go_wp2
  go_ret
  exact ⟨rfl, HW.out⟩

end Go.Proofs.YtpjfpgimpgmhcadGreat.St
