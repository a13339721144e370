/- SellTells: a sailing that is not right. -/
import Derived.Test.YtpjfpgimpgmhcadGreatSeNo
import Derived.Test.YtpjfpgimpgmhcadGreatSeMo
import Derived.Test.YtpjfpgimpgmhcadGreatSeSbo
namespace Go.Proofs.YtpjfpgimpgmhcadGreat.St
open Go.RowKit Bk
set_option linter.unusedSimpArgs false
set_option linter.unusedVariables false
set_option maxRecDepth 10000

set_option maxHeartbeats 16000000 in
theorem sellTells_bad (x : Sail) (a : SailA) (b : Bkg) (fo : Option Addr) (fc : Nat) (g : Int) (lv : Bool) (f t : Int) (w : World) (hs : SailAt w x a) (hf : Fo.EntsAt w fo fc b.fol) (v : Int) (HE : Aside (P.SailE x v)) (hn : ¬ v = 0) :
    Calls Tryz.prog 6 #[V.sail x a, V.bk b fo fc, .int .i64 g, .bool lv, .agg #[.int .i64 f, .int .i64 t]] w fun e w' => e = .returned (.bool true) ∧ Below w.heap.size w w' := by
  have HS : Aside (SailAt w x a) := hs
  have HF : Aside (Fo.EntsAt w fo fc b.fol) := hf
  have HW : Aside (Below w.heap.size w (W.sp2 (W.bk (W.sail w x a) b fo fc) f t)) := bvia (sail_below w x a) (bvia (bk_below _ b fo fc) (by go_grown))
  have HX : Aside (SRow (W.sp2 (W.bk (W.sail w x a) b fo fc) f t) w.heap.size x a) := ((RowIs.new w _ _ : SRow (W.sail w x a) w.heap.size x a).below (bk_below _ b fo fc)).below (by go_grown)
  have HB : Aside (RowIs (W.sp2 (W.bk (W.sail w x a) b fo fc) f t) (w.heap.size + 1) (C.bk b fo fc)) := by
    have := (RowIs.new (W.sail w x a) (C.bk b fo fc) 42).below (w' := W.sp2 (W.bk (W.sail w x a) b fo fc) f t) (by go_grown)
    rwa [World.size_alloc] at this
  have HP : Aside (RowIs (W.sp2 (W.bk (W.sail w x a) b fo fc) f t) (w.heap.size + 1 + 1) #[.int .i64 f, .int .i64 t]) := by
    have := RowIs.new (W.bk (W.sail w x a) b fo fc) #[.int .i64 f, .int .i64 t] 39
    rwa [World.size_alloc, World.size_alloc] at this
  clear hs hf
  obtain ⟨d0, d1, d2, d3, d4, d5, d6, d7, d8, d9, d10, d11, d12⟩ := SRow.box HX.out
  obtain ⟨z0, z1, z2, z3, z4, z5, z6, z7, z8, z9, z10⟩ := HB.out.bbox
  have p0 := HP.out.cell 0
  have p1 := HP.out.cell 1
  go_enter Tryz.func6, Tryz.ntmps6
  clear d0 d1 d2 d3 d4 d5 d6 d7 d8 d9 d10 d11 d12 z0 z1 z2 z3 z4 z5 z6 z7 z8 z9 z10 p0 p1
  obtain ⟨d0, d1, d2, d3, d4, d5, d6, d7, d8, d9, d10, d11, d12⟩ := SRow.box HX.out
  obtain ⟨z0, z1, z2, z3, z4, z5, z6, z7, z8, z9, z10⟩ := HB.out.bbox
  have p0 := HP.out.cell 0
  have p1 := HP.out.cell 1
  go_wp2_with fail
  refine (sellNamed_any x a b fo fc _ (HS.out.below HW.out) (SlAt.below Fo.REnt.mono HF.out HW.out)).mono ?_
  rintro e w1 ⟨r1, y1, a1, rfl, hS1, hU1, hb1⟩
  replace HW := rW HW hb1
  replace HX := rA HX hb1
  replace HB := rA HB hb1
  replace HP := rA HP hb1
  clear d0 d1 d2 d3 d4 d5 d6 d7 d8 d9 d10 d11 d12 z0 z1 z2 z3 z4 z5 z6 z7 z8 z9 z10 p0 p1
  have HS1 : Aside (P.SellS 1 x b r1 y1) := hS1
  have hs1' := sail_below w1 y1 a1
  have HA1 : Aside (SailAt (W.sail w1 y1 a1) y1 a1) := hU1.at.below hs1'
  have HR1 : Aside (SRow (W.sail w1 y1 a1) w1.heap.size y1 a1) := RowIs.new w1 _ _
  replace HW := rW HW hs1'
  replace HX := rA HX hs1'
  replace HB := rA HB hs1'
  replace HP := rA HP hs1'
  clear hS1 hU1 hb1 hs1'
  obtain ⟨d0, d1, d2, d3, d4, d5, d6, d7, d8, d9, d10, d11, d12⟩ := SRow.box HX.out
  obtain ⟨z0, z1, z2, z3, z4, z5, z6, z7, z8, z9, z10⟩ := HB.out.bbox
  have p0 := HP.out.cell 0
  have p1 := HP.out.cell 1
  go_wp2_with fail
  refine (sellPromise_any x a b fo fc _ (HS.out.below HW.out) (SlAt.below Fo.REnt.mono HF.out HW.out)).mono ?_
  rintro e w2 ⟨r2, y2, a2, rfl, hS2, hU2, hb2⟩
  replace HW := rW HW hb2
  replace HX := rA HX hb2
  replace HB := rA HB hb2
  replace HP := rA HP hb2
  replace HA1 := rS HA1 hb2
  replace HR1 := rA HR1 hb2
  clear d0 d1 d2 d3 d4 d5 d6 d7 d8 d9 d10 d11 d12 z0 z1 z2 z3 z4 z5 z6 z7 z8 z9 z10 p0 p1
  have HS2 : Aside (P.SellS 2 x b r2 y2) := hS2
  have hs2' := sail_below w2 y2 a2
  have HA2 : Aside (SailAt (W.sail w2 y2 a2) y2 a2) := hU2.at.below hs2'
  have HR2 : Aside (SRow (W.sail w2 y2 a2) w2.heap.size y2 a2) := RowIs.new w2 _ _
  replace HW := rW HW hs2'
  replace HX := rA HX hs2'
  replace HB := rA HB hs2'
  replace HP := rA HP hs2'
  replace HA1 := rS HA1 hs2'
  replace HR1 := rA HR1 hs2'
  clear hS2 hU2 hb2 hs2'
  obtain ⟨d0, d1, d2, d3, d4, d5, d6, d7, d8, d9, d10, d11, d12⟩ := SRow.box HX.out
  obtain ⟨z0, z1, z2, z3, z4, z5, z6, z7, z8, z9, z10⟩ := HB.out.bbox
  have p0 := HP.out.cell 0
  have p1 := HP.out.cell 1
  go_wp2_with fail
  refine (sellOffers_any x a g lv f t _ (HS.out.below HW.out)).mono ?_
  rintro e w3 ⟨r3, v3, l3, rfl, own3, hO3, hb3⟩
  replace HW := rW HW hb3
  replace HX := rA HX hb3
  replace HB := rA HB hb3
  replace HP := rA HP hb3
  replace HA1 := rS HA1 hb3
  replace HR1 := rA HR1 hb3
  replace HA2 := rS HA2 hb3
  replace HR2 := rA HR2 hb3
  clear d0 d1 d2 d3 d4 d5 d6 d7 d8 d9 d10 d11 d12 z0 z1 z2 z3 z4 z5 z6 z7 z8 z9 z10 p0 p1
  obtain ⟨ao3, cap3, rfl, hl3⟩ := OwnJ.at own3
  have HO3 : Aside (P.OffS x g lv f t r3 l3) := hO3
  have HL3 : Aside (IntsAt w3 ao3 cap3 l3) := hl3
  clear own3 hO3 hl3 hb3
  obtain ⟨d0, d1, d2, d3, d4, d5, d6, d7, d8, d9, d10, d11, d12⟩ := SRow.box HX.out
  obtain ⟨z0, z1, z2, z3, z4, z5, z6, z7, z8, z9, z10⟩ := HB.out.bbox
  have p0 := HP.out.cell 0
  have p1 := HP.out.cell 1
  go_wp2_with fail
  refine (refSail_any x a _ (HS.out.below HW.out)).mono ?_
  rintro e w4 ⟨v4, rfl, hv, hb4⟩
  replace HW := rW HW hb4
  replace HX := rA HX hb4
  replace HB := rA HB hb4
  replace HP := rA HP hb4
  replace HA1 := rS HA1 hb4
  replace HR1 := rA HR1 hb4
  replace HA2 := rS HA2 hb4
  replace HR2 := rA HR2 hb4
  replace HL3 := rI HL3 hb4
  clear d0 d1 d2 d3 d4 d5 d6 d7 d8 d9 d10 d11 d12 z0 z1 z2 z3 z4 z5 z6 z7 z8 z9 z10 p0 p1
  obtain rfl := SailE.one HE.out hv
  clear hv hb4
  have hzb : Below w4.heap.size w4 ((w4.alloc O.zs).alloc O.zs) := bvia (al _ _) (al _ _)
  have HV : Aside (Below w4.heap.size w4 ((w4.alloc O.zs).alloc O.zs)) := hzb
  have hw4 : w.heap.size + 1 + 1 < w4.heap.size := HP.out.lt
  have hr1 : w1.heap.size < w4.heap.size := HR1.out.lt
  have hr2 : w2.heap.size < w4.heap.size := HR2.out.lt
  have HZ1 : Aside (RowIs ((w4.alloc O.zs).alloc O.zs) w4.heap.size C.zs) := (RowIs.new w4 C.zs 32).below (al _ _)
  have HZ2 : Aside (RowIs ((w4.alloc O.zs).alloc O.zs) (w4.heap.size + 1) C.zs) := by
    have := RowIs.new (w4.alloc O.zs) C.zs 32
    rwa [World.size_alloc] at this
  replace HW := rW HW hzb
  replace HX := rA HX hzb
  replace HB := rA HB hzb
  replace HP := rA HP hzb
  replace HR1 := rA HR1 hzb
  replace HR2 := rA HR2 hzb
  clear hzb
  obtain ⟨e1, rfl⟩ := sells_bad HE.out hn HS1.out
  obtain ⟨e2, rfl⟩ := sells_bad HE.out hn HS2.out
  obtain ⟨e3, rfl⟩ := offs_bad HE.out hn HO3.out
  rw [e1, e2, e3]
  have hv0 : (v == 0) = false := by simpa using hn
  have HNV : Aside (¬ v = 0) := hn
  clear e1 e2 e3 hn HS1 HS2 HO3
  obtain ⟨d0, d1, d2, d3, d4, d5, d6, d7, d8, d9, d10, d11, d12⟩ := SRow.box HX.out
  obtain ⟨z0, z1, z2, z3, z4, z5, z6, z7, z8, z9, z10⟩ := HB.out.bbox
  have p0 := HP.out.cell 0
  have p1 := HP.out.cell 1
  go_wp2_with fail
  refine (sellBegun_any _).mono ?_
  rintro e wb ⟨rfl, hbb⟩
  replace HW := rW HW hbb
  replace HX := rA HX hbb
  replace HB := rA HB hbb
  replace HP := rA HP hbb
  replace HR1 := rA HR1 hbb
  replace HR2 := rA HR2 hbb
  replace HV := rW HV hbb
  replace HZ1 := rA HZ1 hbb
  replace HZ2 := rA HZ2 hbb
  clear d0 d1 d2 d3 d4 d5 d6 d7 d8 d9 d10 d11 d12 z0 z1 z2 z3 z4 z5 z6 z7 z8 z9 z10 p0 p1
  clear hbb
  obtain ⟨d0, d1, d2, d3, d4, d5, d6, d7, d8, d9, d10, d11, d12⟩ := SRow.box HR1.out
  obtain ⟨e0, e1, e2, e3, e4, e5, e6, e7, e8, e9, e10, e11, e12⟩ := zs_cells HZ1.out
  go_wp2_with fail
  refine (sailingIs_any v P.zeroS P.zeroS a1 A.zeroS _ (HA1.out.below HV.out) (fun h => absurd h HNV.out) (fun _ => rfl)).mono ?_
  rintro e wi1 ⟨rfl, hbi1⟩
  replace HW := rW HW hbi1
  replace HX := rA HX hbi1
  replace HB := rA HB hbi1
  replace HP := rA HP hbi1
  replace HR1 := rA HR1 hbi1
  replace HR2 := rA HR2 hbi1
  replace HV := rW HV hbi1
  replace HZ1 := rA HZ1 hbi1
  replace HZ2 := rA HZ2 hbi1
  clear d0 d1 d2 d3 d4 d5 d6 d7 d8 d9 d10 d11 d12 e0 e1 e2 e3 e4 e5 e6 e7 e8 e9 e10 e11 e12 hbi1
  obtain ⟨d0, d1, d2, d3, d4, d5, d6, d7, d8, d9, d10, d11, d12⟩ := SRow.box HR2.out
  obtain ⟨e0, e1, e2, e3, e4, e5, e6, e7, e8, e9, e10, e11, e12⟩ := zs_cells HZ2.out
  go_wp2_with fail
  refine (sailingIs_any v P.zeroS P.zeroS a2 A.zeroS _ (HA2.out.below HV.out) (fun h => absurd h HNV.out) (fun _ => rfl)).mono ?_
  rintro e wi2 ⟨rfl, hbi2⟩
  replace HW := rW HW hbi2
  replace HX := rA HX hbi2
  replace HB := rA HB hbi2
  replace HP := rA HP hbi2
  replace HR1 := rA HR1 hbi2
  replace HR2 := rA HR2 hbi2
  replace HV := rW HV hbi2
  replace HZ1 := rA HZ1 hbi2
  replace HZ2 := rA HZ2 hbi2
  clear d0 d1 d2 d3 d4 d5 d6 d7 d8 d9 d10 d11 d12 e0 e1 e2 e3 e4 e5 e6 e7 e8 e9 e10 e11 e12 hbi2
  go_wp2_with fail
  refine (Ma.intsAre_any _ _ _ _ ([] : List Int) ([] : List Int) v v _ (SlAt.below RInt.mono HL3.out HV.out) (SlAt.nilOf _)).mono ?_
  rintro e wf ⟨rfl, hbf⟩
  replace HW := rW HW hbf
  rw [show (decide ((v : Int) = v) && decide (([] : List Int) = Ma.P.wantI v ([] : List Int))) = true by simp [Ma.P.wantI]]
  go_wp2
  go_ret
  exact ⟨rfl, HW.out⟩

end Go.Proofs.YtpjfpgimpgmhcadGreat.St
namespace Go.Proofs.YtpjfpgimpgmhcadGreat.St
open Go.RowKit Bk
set_option linter.unusedSimpArgs false
set_option linter.unusedVariables false
set_option maxRecDepth 10000

theorem sellTells_walk (x : Sail) (a : SailA) (b : Bkg) (fo : Option Addr) (fc : Nat) (g : Int) (lv : Bool) (f t : Int) (w : World) (hs : SailAt w x a) (hf : Fo.EntsAt w fo fc b.fol) :
    Calls Tryz.prog 6 #[V.sail x a, V.bk b fo fc, .int .i64 g, .bool lv, .agg #[.int .i64 f, .int .i64 t]] w fun e w' => e = .returned (.bool true) ∧ Below w.heap.size w w' := by
  obtain ⟨v, hv⟩ := sail_total' x
  by_cases h : v = 0
  · subst h
    by_cases hg1 : g < 1
    · exact sellTells_goodA x a b fo fc g lv f t w hs hf hv hg1
    by_cases hg4 : 4 < g
    · exact sellTells_goodB x a b fo fc g lv f t w hs hf hv hg1 hg4
    by_cases hc : P.chk f t x.s.legs = 0
    · by_cases hl : x.lvs ≤ x.day
      · exact sellTells_goodD x a b fo fc g lv f t w hs hf hv hg1 hg4 hc hl
      by_cases h16 : x.bks.length = 16
      · exact sellTells_goodE x a b fo fc g lv f t w hs hf hv hg1 hg4 hc hl h16
      · exact sellTells_goodF x a b fo fc g lv f t w hs hf hv hg1 hg4 hc hl h16
    · exact sellTells_goodC x a b fo fc g lv f t w hs hf hv hg1 hg4 hc
  · exact sellTells_bad x a b fo fc g lv f t w hs hf v hv h

end Go.Proofs.YtpjfpgimpgmhcadGreat.St
