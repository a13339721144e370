/- ChangeTells: a sailing that is right. -/
import Derived.Test.YtlamhfbdeinkkaeGreatChPo
import Derived.Test.YtlamhfbdeinkkaeGreatChVo
import Derived.Test.YtlamhfbdeinkkaeGreatBxBo
namespace Go.Proofs.YtlamhfbdeinkkaeGreat.St
open Go.RowKit Bk
set_option linter.unusedSimpArgs false
set_option linter.unusedVariables false
set_option maxRecDepth 10000

set_option maxHeartbeats 32000000 in
theorem changeTells_good (x : Sail) (a : SailA) (id m c : Int) (w : World) (hs : SailAt w x a) (HE : Aside (P.SailE x 0)) :
    Calls Tryz.prog 5 #[V.sail x a, .int .i64 id, .int .i64 m, .int .i64 c] w fun e w' => e = .returned (.bool true) ∧ Below w.heap.size w w' := by
  have HS : Aside (SailAt w x a) := hs
  have HW : Aside (Below w.heap.size w (W.sail w x a)) := sail_below w x a
  have HX : Aside (SRow (W.sail w x a) w.heap.size x a) := RowIs.new w _ _
  clear hs
  obtain ⟨d0, d1, d2, d3, d4, d5, d6, d7, d8, d9, d10, d11, d12⟩ := SRow.box HX.out
  go_enter Tryz.func5, Tryz.ntmps5
  clear d0 d1 d2 d3 d4 d5 d6 d7 d8 d9 d10 d11 d12
  obtain ⟨d0, d1, d2, d3, d4, d5, d6, d7, d8, d9, d10, d11, d12⟩ := SRow.box HX.out
  go_wp2_with fail
  refine (sure_any x a id _ (HS.out.below HW.out)).mono ?_
  rintro e w1 ⟨r1, y1, a1, rfl, hS1, hU1, hb1⟩
  replace HW := rW HW hb1
  replace HX := rA HX hb1
  clear d0 d1 d2 d3 d4 d5 d6 d7 d8 d9 d10 d11 d12
  have HS1 : Aside (P.Chg x id P.sureT r1 y1) := hS1
  have hs1' := sail_below w1 y1 a1
  have HA1 : Aside (SailAt (W.sail w1 y1 a1) y1 a1) := hU1.at.below hs1'
  have HR1 : Aside (SRow (W.sail w1 y1 a1) w1.heap.size y1 a1) := RowIs.new w1 _ _
  replace HW := rW HW hs1'
  replace HX := rA HX hs1'
  clear hS1 hU1 hb1 hs1'
  obtain ⟨d0, d1, d2, d3, d4, d5, d6, d7, d8, d9, d10, d11, d12⟩ := SRow.box HX.out
  go_wp2_with fail
  refine (pay_any x a id m _ (HS.out.below HW.out)).mono ?_
  rintro e w2 ⟨r2, y2, a2, rfl, hS2, hU2, hb2⟩
  replace HW := rW HW hb2
  replace HX := rA HX hb2
  replace HA1 := rS HA1 hb2
  replace HR1 := rA HR1 hb2
  clear d0 d1 d2 d3 d4 d5 d6 d7 d8 d9 d10 d11 d12
  have HS2 : Aside (P.Chg x id (P.payT x.day m) r2 y2) := hS2
  have hs2' := sail_below w2 y2 a2
  have HA2 : Aside (SailAt (W.sail w2 y2 a2) y2 a2) := hU2.at.below hs2'
  have HR2 : Aside (SRow (W.sail w2 y2 a2) w2.heap.size y2 a2) := RowIs.new w2 _ _
  replace HW := rW HW hs2'
  replace HX := rA HX hs2'
  replace HA1 := rS HA1 hs2'
  replace HR1 := rA HR1 hs2'
  clear hS2 hU2 hb2 hs2'
  obtain ⟨d0, d1, d2, d3, d4, d5, d6, d7, d8, d9, d10, d11, d12⟩ := SRow.box HX.out
  go_wp2_with fail
  refine (cancel_any x a id _ (HS.out.below HW.out)).mono ?_
  rintro e w3 ⟨r3, y3, a3, rfl, hS3, hU3, hb3⟩
  replace HW := rW HW hb3
  replace HX := rA HX hb3
  replace HA1 := rS HA1 hb3
  replace HR1 := rA HR1 hb3
  replace HA2 := rS HA2 hb3
  replace HR2 := rA HR2 hb3
  clear d0 d1 d2 d3 d4 d5 d6 d7 d8 d9 d10 d11 d12
  have HS3 : Aside (P.Chg x id (P.cnT x) r3 y3) := hS3
  have hs3' := sail_below w3 y3 a3
  have HA3 : Aside (SailAt (W.sail w3 y3 a3) y3 a3) := hU3.at.below hs3'
  have HR3 : Aside (SRow (W.sail w3 y3 a3) w3.heap.size y3 a3) := RowIs.new w3 _ _
  replace HW := rW HW hs3'
  replace HX := rA HX hs3'
  replace HA1 := rS HA1 hs3'
  replace HR1 := rA HR1 hs3'
  replace HA2 := rS HA2 hs3'
  replace HR2 := rA HR2 hs3'
  clear hS3 hU3 hb3 hs3'
  obtain ⟨d0, d1, d2, d3, d4, d5, d6, d7, d8, d9, d10, d11, d12⟩ := SRow.box HX.out
  go_wp2_with fail
  refine (move_any x a id c _ (HS.out.below HW.out)).mono ?_
  rintro e w4 ⟨r4, y4, a4, rfl, hS4, hU4, hb4⟩
  replace HW := rW HW hb4
  replace HX := rA HX hb4
  replace HA1 := rS HA1 hb4
  replace HR1 := rA HR1 hb4
  replace HA2 := rS HA2 hb4
  replace HR2 := rA HR2 hb4
  replace HA3 := rS HA3 hb4
  replace HR3 := rA HR3 hb4
  clear d0 d1 d2 d3 d4 d5 d6 d7 d8 d9 d10 d11 d12
  have HS4 : Aside (P.Chg x id (P.mvT x c) r4 y4) := hS4
  have hs4' := sail_below w4 y4 a4
  have HA4 : Aside (SailAt (W.sail w4 y4 a4) y4 a4) := hU4.at.below hs4'
  have HR4 : Aside (SRow (W.sail w4 y4 a4) w4.heap.size y4 a4) := RowIs.new w4 _ _
  replace HW := rW HW hs4'
  replace HX := rA HX hs4'
  replace HA1 := rS HA1 hs4'
  replace HR1 := rA HR1 hs4'
  replace HA2 := rS HA2 hs4'
  replace HR2 := rA HR2 hs4'
  replace HA3 := rS HA3 hs4'
  replace HR3 := rA HR3 hs4'
  clear hS4 hU4 hb4 hs4'
  obtain ⟨d0, d1, d2, d3, d4, d5, d6, d7, d8, d9, d10, d11, d12⟩ := SRow.box HX.out
  go_wp2_with fail
  refine (refSail_any x a _ (HS.out.below HW.out)).mono ?_
  rintro e w5 ⟨v4, rfl, hv, hb5⟩
  replace HW := rW HW hb5
  replace HX := rA HX hb5
  replace HA1 := rS HA1 hb5
  replace HR1 := rA HR1 hb5
  replace HA2 := rS HA2 hb5
  replace HR2 := rA HR2 hb5
  replace HA3 := rS HA3 hb5
  replace HR3 := rA HR3 hb5
  replace HA4 := rS HA4 hb5
  replace HR4 := rA HR4 hb5
  clear d0 d1 d2 d3 d4 d5 d6 d7 d8 d9 d10 d11 d12
  obtain rfl := SailE.one HE.out hv
  clear hv hb5
  have hzb : Below w5.heap.size w5 ((((w5.alloc O.zs).alloc O.zs).alloc O.zs).alloc O.zs) := bvia (al _ _) (bvia (al _ _) (bvia (al _ _) (al _ _)))
  have HV : Aside (Below w5.heap.size w5 ((((w5.alloc O.zs).alloc O.zs).alloc O.zs).alloc O.zs)) := hzb
  have hw5 : w.heap.size < w5.heap.size := HX.out.lt
  have hr1 : w1.heap.size < w5.heap.size := HR1.out.lt
  have hr2 : w2.heap.size < w5.heap.size := HR2.out.lt
  have hr3 : w3.heap.size < w5.heap.size := HR3.out.lt
  have hr4 : w4.heap.size < w5.heap.size := HR4.out.lt
  have HZ1 : Aside (RowIs ((((w5.alloc O.zs).alloc O.zs).alloc O.zs).alloc O.zs) (w5.heap.size) C.zs) := by
    have := RowIs.new w5 C.zs 32
    try simp only [World.size_alloc] at this
    exact this.below (bvia (al _ _) (bvia (al _ _) (al _ _)))
  have HZ2 : Aside (RowIs ((((w5.alloc O.zs).alloc O.zs).alloc O.zs).alloc O.zs) (w5.heap.size + 1) C.zs) := by
    have := RowIs.new (w5.alloc O.zs) C.zs 32
    try simp only [World.size_alloc] at this
    exact this.below (bvia (al _ _) (al _ _))
  have HZ3 : Aside (RowIs ((((w5.alloc O.zs).alloc O.zs).alloc O.zs).alloc O.zs) (w5.heap.size + 1 + 1) C.zs) := by
    have := RowIs.new ((w5.alloc O.zs).alloc O.zs) C.zs 32
    try simp only [World.size_alloc] at this
    exact this.below (al _ _)
  have HZ4 : Aside (RowIs ((((w5.alloc O.zs).alloc O.zs).alloc O.zs).alloc O.zs) (w5.heap.size + 1 + 1 + 1) C.zs) := by
    have := RowIs.new (((w5.alloc O.zs).alloc O.zs).alloc O.zs) C.zs 32
    try simp only [World.size_alloc] at this
    exact this
  replace HW := rW HW hzb
  replace HX := rA HX hzb
  replace HR1 := rA HR1 hzb
  replace HR2 := rA HR2 hzb
  replace HR3 := rA HR3 hzb
  replace HR4 := rA HR4 hzb
  clear hzb
  have HZV : Aside (w5.heap.size + 1 + 1 + 1 + 1 ≤ ((((w5.alloc O.zs).alloc O.zs).alloc O.zs).alloc O.zs).heap.size) := by show _ ≤ _; simp only [World.size_alloc]; omega
  have HM1 := HZV
  obtain ⟨d0, d1, d2, d3, d4, d5, d6, d7, d8, d9, d10, d11, d12⟩ := SRow.box HX.out
  go_wp2_with fail
  refine (sureOf_any x a id w _ HW.out HS.out HE.out).mono ?_
  rintro e u1 ⟨q1, z1', b1, rfl, hq1, hz1, hc1⟩
  replace HW := rW HW hc1
  replace HX := rA HX hc1
  replace HR1 := rA HR1 hc1
  replace HR2 := rA HR2 hc1
  replace HR3 := rA HR3 hc1
  replace HR4 := rA HR4 hc1
  replace HV := rW HV hc1
  replace HZ1 := rA HZ1 hc1
  replace HZ2 := rA HZ2 hc1
  replace HZ3 := rA HZ3 hc1
  replace HZ4 := rA HZ4 hc1
  clear d0 d1 d2 d3 d4 d5 d6 d7 d8 d9 d10 d11 d12
  obtain ⟨rfl, rfl⟩ := Ch.one (rise_of HE.out) sureT_one (good_ch sure_ch HE.out HS1.out) hq1
  have HQ1 : Aside (SailTw w.heap.size (w5.heap.size + 1 + 1 + 1 + 1) u1 y1 b1) := hz1.mono HM1.out
  clear hq1 hz1 hc1
  go_wp2_with ((with_reducible refine wpList_stO (w5.heap.size) C.zs (C.sail y1 b1) ?_ ?_ ?_ HZ1.out ?_ ?_ ?_); exact Tryz.sizeSail; rfl; rfl; rfl; exact sail_one _ _; intro s1 hr1' hg1; have hsz1 : w5.heap.size ≤ u1.heap.size := HV.out.size; replace HW := gW HW (by omega) hg1 (by omega); replace HX := gA HX hg1 (by omega); replace HR1 := gA HR1 hg1 (by omega); replace HR2 := gA HR2 hg1 (by omega); replace HR3 := gA HR3 hg1 (by omega); replace HR4 := gA HR4 hg1 (by omega); replace HV := gW HV (by omega) hg1 (by omega); replace HZ1 : Aside (SRow s1 (w5.heap.size) y1 b1) := hr1'; replace HZ2 := gA HZ2 hg1 (by omega); replace HZ3 := gA HZ3 hg1 (by omega); replace HZ4 := gA HZ4 hg1 (by omega); replace HQ1 := tG HQ1 hg1 (by omega) (by omega) (by omega); obtain ⟨d0, d1, d2, d3, d4, d5, d6, d7, d8, d9, d10, d11, d12⟩ := SRow.box HX.out; clear hr1' hg1 hsz1)
  have HM2 : Aside (w5.heap.size + 1 + 1 + 1 + 1 ≤ s1.heap.size) := by have := HZ4.out.lt; show _ ≤ _; omega
  refine (payOf_any x a id m w _ HW.out HS.out HE.out).mono ?_
  rintro e u2 ⟨q2, z2', b2, rfl, hq2, hz2, hc2⟩
  replace HQ1 := tB HQ1 hc2 (by have := HV.out.size; omega)
  replace HW := rW HW hc2
  replace HX := rA HX hc2
  replace HR1 := rA HR1 hc2
  replace HR2 := rA HR2 hc2
  replace HR3 := rA HR3 hc2
  replace HR4 := rA HR4 hc2
  replace HV := rW HV hc2
  replace HZ1 := rA HZ1 hc2
  replace HZ2 := rA HZ2 hc2
  replace HZ3 := rA HZ3 hc2
  replace HZ4 := rA HZ4 hc2
  clear d0 d1 d2 d3 d4 d5 d6 d7 d8 d9 d10 d11 d12
  obtain ⟨rfl, rfl⟩ := Ch.one (rise_of HE.out) (payT_one _ _) (good_ch pay_ch HE.out HS2.out) hq2
  have HQ2 : Aside (SailTw w.heap.size (w5.heap.size + 1 + 1 + 1 + 1) u2 y2 b2) := hz2.mono HM2.out
  clear hq2 hz2 hc2
  go_wp2_with ((with_reducible refine wpList_stO (w5.heap.size + 1) C.zs (C.sail y2 b2) ?_ ?_ ?_ HZ2.out ?_ ?_ ?_); exact Tryz.sizeSail; rfl; rfl; rfl; exact sail_one _ _; intro s2 hr2' hg2; have hsz2 : w5.heap.size ≤ u2.heap.size := HV.out.size; replace HW := gW HW (by omega) hg2 (by omega); replace HX := gA HX hg2 (by omega); replace HR1 := gA HR1 hg2 (by omega); replace HR2 := gA HR2 hg2 (by omega); replace HR3 := gA HR3 hg2 (by omega); replace HR4 := gA HR4 hg2 (by omega); replace HV := gW HV (by omega) hg2 (by omega); replace HZ1 := gA HZ1 hg2 (by omega); replace HZ2 : Aside (SRow s2 (w5.heap.size + 1) y2 b2) := hr2'; replace HZ3 := gA HZ3 hg2 (by omega); replace HZ4 := gA HZ4 hg2 (by omega); replace HQ1 := tG HQ1 hg2 (by omega) (by omega) (by omega); replace HQ2 := tG HQ2 hg2 (by omega) (by omega) (by omega); obtain ⟨d0, d1, d2, d3, d4, d5, d6, d7, d8, d9, d10, d11, d12⟩ := SRow.box HX.out; clear hr2' hg2 hsz2)
  have HM3 : Aside (w5.heap.size + 1 + 1 + 1 + 1 ≤ s2.heap.size) := by have := HZ4.out.lt; show _ ≤ _; omega
  refine (cancelB_any x a id w _ HW.out HS.out HE.out).mono ?_
  rintro e u3 ⟨q3, z3', b3, rfl, hq3, hz3, hc3⟩
  replace HQ1 := tB HQ1 hc3 (by have := HV.out.size; omega)
  replace HQ2 := tB HQ2 hc3 (by have := HV.out.size; omega)
  replace HW := rW HW hc3
  replace HX := rA HX hc3
  replace HR1 := rA HR1 hc3
  replace HR2 := rA HR2 hc3
  replace HR3 := rA HR3 hc3
  replace HR4 := rA HR4 hc3
  replace HV := rW HV hc3
  replace HZ1 := rA HZ1 hc3
  replace HZ2 := rA HZ2 hc3
  replace HZ3 := rA HZ3 hc3
  replace HZ4 := rA HZ4 hc3
  clear d0 d1 d2 d3 d4 d5 d6 d7 d8 d9 d10 d11 d12
  obtain ⟨rfl, rfl⟩ := Ch.one (rise_of HE.out) (cnT_one _) (good_ch cn_ch HE.out HS3.out) hq3
  have HQ3 : Aside (SailTw w.heap.size (w5.heap.size + 1 + 1 + 1 + 1) u3 y3 b3) := hz3.mono HM3.out
  clear hq3 hz3 hc3
  go_wp2_with ((with_reducible refine wpList_stO (w5.heap.size + 1 + 1) C.zs (C.sail y3 b3) ?_ ?_ ?_ HZ3.out ?_ ?_ ?_); exact Tryz.sizeSail; rfl; rfl; rfl; exact sail_one _ _; intro s3 hr3' hg3; have hsz3 : w5.heap.size ≤ u3.heap.size := HV.out.size; replace HW := gW HW (by omega) hg3 (by omega); replace HX := gA HX hg3 (by omega); replace HR1 := gA HR1 hg3 (by omega); replace HR2 := gA HR2 hg3 (by omega); replace HR3 := gA HR3 hg3 (by omega); replace HR4 := gA HR4 hg3 (by omega); replace HV := gW HV (by omega) hg3 (by omega); replace HZ1 := gA HZ1 hg3 (by omega); replace HZ2 := gA HZ2 hg3 (by omega); replace HZ3 : Aside (SRow s3 (w5.heap.size + 1 + 1) y3 b3) := hr3'; replace HZ4 := gA HZ4 hg3 (by omega); replace HQ1 := tG HQ1 hg3 (by omega) (by omega) (by omega); replace HQ2 := tG HQ2 hg3 (by omega) (by omega) (by omega); replace HQ3 := tG HQ3 hg3 (by omega) (by omega) (by omega); obtain ⟨d0, d1, d2, d3, d4, d5, d6, d7, d8, d9, d10, d11, d12⟩ := SRow.box HX.out; clear hr3' hg3 hsz3)
  have HM4 : Aside (w5.heap.size + 1 + 1 + 1 + 1 ≤ s3.heap.size) := by have := HZ4.out.lt; show _ ≤ _; omega
  refine (moveOf_any x a id c w _ HW.out HS.out HE.out).mono ?_
  rintro e u4 ⟨q4, z4', b4, rfl, hq4, hz4, hc4⟩
  replace HQ1 := tB HQ1 hc4 (by have := HV.out.size; omega)
  replace HQ2 := tB HQ2 hc4 (by have := HV.out.size; omega)
  replace HQ3 := tB HQ3 hc4 (by have := HV.out.size; omega)
  replace HW := rW HW hc4
  replace HX := rA HX hc4
  replace HR1 := rA HR1 hc4
  replace HR2 := rA HR2 hc4
  replace HR3 := rA HR3 hc4
  replace HR4 := rA HR4 hc4
  replace HV := rW HV hc4
  replace HZ1 := rA HZ1 hc4
  replace HZ2 := rA HZ2 hc4
  replace HZ3 := rA HZ3 hc4
  replace HZ4 := rA HZ4 hc4
  clear d0 d1 d2 d3 d4 d5 d6 d7 d8 d9 d10 d11 d12
  obtain ⟨rfl, rfl⟩ := Moves.one (rise_of HE.out) (good_ch chg_moves HE.out HS4.out) hq4
  have HQ4 : Aside (SailTw w.heap.size (w5.heap.size + 1 + 1 + 1 + 1) u4 y4 b4) := hz4.mono HM4.out
  clear hq4 hz4 hc4
  go_wp2_with ((with_reducible refine wpList_stO (w5.heap.size + 1 + 1 + 1) C.zs (C.sail y4 b4) ?_ ?_ ?_ HZ4.out ?_ ?_ ?_); exact Tryz.sizeSail; rfl; rfl; rfl; exact sail_one _ _; intro s4 hr4' hg4; have hsz4 : w5.heap.size ≤ u4.heap.size := HV.out.size; replace HW := gW HW (by omega) hg4 (by omega); replace HX := gA HX hg4 (by omega); replace HR1 := gA HR1 hg4 (by omega); replace HR2 := gA HR2 hg4 (by omega); replace HR3 := gA HR3 hg4 (by omega); replace HR4 := gA HR4 hg4 (by omega); replace HV := gW HV (by omega) hg4 (by omega); replace HZ1 := gA HZ1 hg4 (by omega); replace HZ2 := gA HZ2 hg4 (by omega); replace HZ3 := gA HZ3 hg4 (by omega); replace HZ4 : Aside (SRow s4 (w5.heap.size + 1 + 1 + 1) y4 b4) := hr4'; replace HQ1 := tG HQ1 hg4 (by omega) (by omega) (by omega); replace HQ2 := tG HQ2 hg4 (by omega) (by omega) (by omega); replace HQ3 := tG HQ3 hg4 (by omega) (by omega) (by omega); replace HQ4 := tG HQ4 hg4 (by omega) (by omega) (by omega); clear hr4' hg4 hsz4)
  refine (changeBegun_any _).mono ?_
  rintro e wb ⟨rfl, hbb⟩
  replace HQ1 := tB HQ1 hbb (by have := HV.out.size; omega)
  replace HQ2 := tB HQ2 hbb (by have := HV.out.size; omega)
  replace HQ3 := tB HQ3 hbb (by have := HV.out.size; omega)
  replace HQ4 := tB HQ4 hbb (by have := HV.out.size; omega)
  replace HW := rW HW hbb
  replace HX := rA HX hbb
  replace HR1 := rA HR1 hbb
  replace HR2 := rA HR2 hbb
  replace HR3 := rA HR3 hbb
  replace HR4 := rA HR4 hbb
  replace HV := rW HV hbb
  replace HZ1 := rA HZ1 hbb
  replace HZ2 := rA HZ2 hbb
  replace HZ3 := rA HZ3 hbb
  replace HZ4 := rA HZ4 hbb
  clear hbb
  obtain ⟨d0, d1, d2, d3, d4, d5, d6, d7, d8, d9, d10, d11, d12⟩ := SRow.box HR1.out
  obtain ⟨e0, e1, e2, e3, e4, e5, e6, e7, e8, e9, e10, e11, e12⟩ := SRow.box HZ1.out
  go_wp2_with fail
  refine (sailingIs_any r1 y1 y1 a1 b1 _ (HA1.out.below HV.out) (fun _ => ⟨rfl, HQ1.out.at⟩) (ch_zero (good_ch sure_ch HE.out HS1.out))).mono ?_
  rintro e wi1 ⟨rfl, hbi1⟩
  replace HQ1 := tB HQ1 hbi1 (by have := HV.out.size; omega)
  replace HQ2 := tB HQ2 hbi1 (by have := HV.out.size; omega)
  replace HQ3 := tB HQ3 hbi1 (by have := HV.out.size; omega)
  replace HQ4 := tB HQ4 hbi1 (by have := HV.out.size; omega)
  replace HW := rW HW hbi1
  replace HX := rA HX hbi1
  replace HR1 := rA HR1 hbi1
  replace HR2 := rA HR2 hbi1
  replace HR3 := rA HR3 hbi1
  replace HR4 := rA HR4 hbi1
  replace HV := rW HV hbi1
  replace HZ1 := rA HZ1 hbi1
  replace HZ2 := rA HZ2 hbi1
  replace HZ3 := rA HZ3 hbi1
  replace HZ4 := rA HZ4 hbi1
  clear d0 d1 d2 d3 d4 d5 d6 d7 d8 d9 d10 d11 d12 e0 e1 e2 e3 e4 e5 e6 e7 e8 e9 e10 e11 e12 hbi1
  obtain ⟨d0, d1, d2, d3, d4, d5, d6, d7, d8, d9, d10, d11, d12⟩ := SRow.box HR2.out
  obtain ⟨e0, e1, e2, e3, e4, e5, e6, e7, e8, e9, e10, e11, e12⟩ := SRow.box HZ2.out
  go_wp2_with fail
  refine (sailingIs_any r2 y2 y2 a2 b2 _ (HA2.out.below HV.out) (fun _ => ⟨rfl, HQ2.out.at⟩) (ch_zero (good_ch pay_ch HE.out HS2.out))).mono ?_
  rintro e wi2 ⟨rfl, hbi2⟩
  replace HQ1 := tB HQ1 hbi2 (by have := HV.out.size; omega)
  replace HQ2 := tB HQ2 hbi2 (by have := HV.out.size; omega)
  replace HQ3 := tB HQ3 hbi2 (by have := HV.out.size; omega)
  replace HQ4 := tB HQ4 hbi2 (by have := HV.out.size; omega)
  replace HW := rW HW hbi2
  replace HX := rA HX hbi2
  replace HR1 := rA HR1 hbi2
  replace HR2 := rA HR2 hbi2
  replace HR3 := rA HR3 hbi2
  replace HR4 := rA HR4 hbi2
  replace HV := rW HV hbi2
  replace HZ1 := rA HZ1 hbi2
  replace HZ2 := rA HZ2 hbi2
  replace HZ3 := rA HZ3 hbi2
  replace HZ4 := rA HZ4 hbi2
  clear d0 d1 d2 d3 d4 d5 d6 d7 d8 d9 d10 d11 d12 e0 e1 e2 e3 e4 e5 e6 e7 e8 e9 e10 e11 e12 hbi2
  obtain ⟨d0, d1, d2, d3, d4, d5, d6, d7, d8, d9, d10, d11, d12⟩ := SRow.box HR3.out
  obtain ⟨e0, e1, e2, e3, e4, e5, e6, e7, e8, e9, e10, e11, e12⟩ := SRow.box HZ3.out
  go_wp2_with fail
  refine (sailingIs_any r3 y3 y3 a3 b3 _ (HA3.out.below HV.out) (fun _ => ⟨rfl, HQ3.out.at⟩) (ch_zero (good_ch cn_ch HE.out HS3.out))).mono ?_
  rintro e wi3 ⟨rfl, hbi3⟩
  replace HQ1 := tB HQ1 hbi3 (by have := HV.out.size; omega)
  replace HQ2 := tB HQ2 hbi3 (by have := HV.out.size; omega)
  replace HQ3 := tB HQ3 hbi3 (by have := HV.out.size; omega)
  replace HQ4 := tB HQ4 hbi3 (by have := HV.out.size; omega)
  replace HW := rW HW hbi3
  replace HX := rA HX hbi3
  replace HR1 := rA HR1 hbi3
  replace HR2 := rA HR2 hbi3
  replace HR3 := rA HR3 hbi3
  replace HR4 := rA HR4 hbi3
  replace HV := rW HV hbi3
  replace HZ1 := rA HZ1 hbi3
  replace HZ2 := rA HZ2 hbi3
  replace HZ3 := rA HZ3 hbi3
  replace HZ4 := rA HZ4 hbi3
  clear d0 d1 d2 d3 d4 d5 d6 d7 d8 d9 d10 d11 d12 e0 e1 e2 e3 e4 e5 e6 e7 e8 e9 e10 e11 e12 hbi3
  obtain ⟨d0, d1, d2, d3, d4, d5, d6, d7, d8, d9, d10, d11, d12⟩ := SRow.box HR4.out
  obtain ⟨e0, e1, e2, e3, e4, e5, e6, e7, e8, e9, e10, e11, e12⟩ := SRow.box HZ4.out
  go_wp2_with fail
  refine (sailingIs_any r4 y4 y4 a4 b4 _ (HA4.out.below HV.out) (fun _ => ⟨rfl, HQ4.out.at⟩) (moves_zero (good_ch chg_moves HE.out HS4.out))).mono ?_
  rintro e wi4 ⟨rfl, hbi4⟩
  replace HW := rW HW hbi4
  clear d0 d1 d2 d3 d4 d5 d6 d7 d8 d9 d10 d11 d12 e0 e1 e2 e3 e4 e5 e6 e7 e8 e9 e10 e11 e12 hbi4
  go_wp2
  go_ret
  exact ⟨rfl, HW.out⟩

theorem changeTells_walk (x : Sail) (a : SailA) (id m c : Int) (w : World) (hs : SailAt w x a) :
    Calls Tryz.prog 5 #[V.sail x a, .int .i64 id, .int .i64 m, .int .i64 c] w fun e w' => e = .returned (.bool true) ∧ Below w.heap.size w w' := by
  obtain ⟨v, hv⟩ := sail_total' x
  by_cases h : v = 0
  · subst h
    exact changeTells_good x a id m c w hs hv
  · exact changeTells_bad x a id m c w hs v hv h

end Go.Proofs.YtlamhfbdeinkkaeGreat.St
