/- VoyageTells: an open sailing that is right. -/
import Derived.Test.YtlamhfbdeinkkaeGreatVyIt
namespace Go.Proofs.YtlamhfbdeinkkaeGreat.St
open Go.RowKit Bk
set_option linter.unusedSimpArgs false
set_option linter.unusedVariables false
set_option maxRecDepth 10000

set_option maxHeartbeats 32000000 in
theorem voyageTells_neg_ok (x : Sail) (a : SailA) (day : Int) (w : World) (hs : SailAt w x a) (HE : Aside (P.SailE x 0)) (ht : day < 0) (hc : x.cl = false) :
    Calls Tryz.prog 8 #[V.sail x a, .int .i64 day] w fun e w' => e = .returned (.bool true) ∧ Below w.heap.size w w' := by
  have HS : Aside (SailAt w x a) := hs
  have HW : Aside (Below w.heap.size w (W.sail w x a)) := sail_below w x a
  have HX : Aside (SRow (W.sail w x a) w.heap.size x a) := RowIs.new w _ _
  clear hs
  have HC := asv hc
  clear hc
  obtain ⟨d0, d1, d2, d3, d4, d5, d6, d7, d8, d9, d10, d11, d12⟩ := SRow.box HX.out
  go_enter Tryz.func8, Tryz.ntmps8
  go_wp2_with fail
  refine (voyTurn_any x a day _ (HS.out.below HW.out)).mono ?_
  rintro e w1 ⟨r1, y1, a1, v1, l1, rfl, hS1, hU1, hO1, hb1⟩
  replace HW := rW HW hb1
  replace HX := rA HX hb1
  clear d0 d1 d2 d3 d4 d5 d6 d7 d8 d9 d10 d11 d12
  obtain ⟨ao1, c1, rfl, hI1⟩ := OwnJ.at hO1
  have HS1 := asv hS1
  have hs1' := sail_below w1 y1 a1
  have HA1 : Aside (SailAt (W.sail w1 y1 a1) y1 a1) := hU1.at.below hs1'
  have HR1 : Aside (SRow (W.sail w1 y1 a1) w1.heap.size y1 a1) := RowIs.new w1 _ _
  have HI1 : Aside (IntsAt (W.sail w1 y1 a1) ao1 c1 l1) := SlAt.below RInt.mono hI1 hs1'
  replace HW := rW HW hs1'
  replace HX := rA HX hs1'
  clear hS1 hU1 hO1 hI1 hb1 hs1'
  obtain ⟨d0, d1, d2, d3, d4, d5, d6, d7, d8, d9, d10, d11, d12⟩ := SRow.box HX.out
  go_wp2_with fail
  refine (voyClose_any x a _ (HS.out.below HW.out)).mono ?_
  rintro e w2 ⟨r2, y2, a2, rfl, hS2, hU2, hb2⟩
  replace HW := rW HW hb2
  replace HX := rA HX hb2
  replace HA1 := rS HA1 hb2
  replace HR1 := rA HR1 hb2
  replace HI1 := rI HI1 hb2
  clear d0 d1 d2 d3 d4 d5 d6 d7 d8 d9 d10 d11 d12
  have HS2 := asv hS2
  have hs2' := sail_below w2 y2 a2
  have HA2 : Aside (SailAt (W.sail w2 y2 a2) y2 a2) := hU2.at.below hs2'
  have HR2 : Aside (SRow (W.sail w2 y2 a2) w2.heap.size y2 a2) := RowIs.new w2 _ _
  replace HW := rW HW hs2'
  replace HX := rA HX hs2'
  replace HA1 := rS HA1 hs2'
  replace HR1 := rA HR1 hs2'
  replace HI1 := rI HI1 hs2'
  clear hS2 hU2 hb2 hs2'
  obtain ⟨d0, d1, d2, d3, d4, d5, d6, d7, d8, d9, d10, d11, d12⟩ := SRow.box HX.out
  go_wp2_with fail
  refine (voyPlan_any x a _ (HS.out.below HW.out)).mono ?_
  rintro e w3 ⟨r3, v3, rfl, hS3, hO3, hb3⟩
  replace HW := rW HW hb3
  replace HX := rA HX hb3
  replace HA1 := rS HA1 hb3
  replace HR1 := rA HR1 hb3
  replace HI1 := rI HI1 hb3
  replace HA2 := rS HA2 hb3
  replace HR2 := rA HR2 hb3
  clear d0 d1 d2 d3 d4 d5 d6 d7 d8 d9 d10 d11 d12
  obtain rfl := SailE.one HE.out hS3
  rw [show P.ok 0 (P.planL x.bks) = (P.planL x.bks) from if_pos rfl] at hO3
  obtain ⟨ao3, c3, rfl, hI3⟩ := OwnC.at cellsG_len hO3
  have HI3 : Aside (GAt w3 ao3 c3 (P.planL x.bks)) := hI3
  clear hS3 hO3 hI3 hb3
  obtain ⟨d0, d1, d2, d3, d4, d5, d6, d7, d8, d9, d10, d11, d12⟩ := SRow.box HX.out
  go_wp2_with fail
  refine (refSail_any x a _ (HS.out.below HW.out)).mono ?_
  rintro e w4 ⟨v4, rfl, hv, hb4⟩
  replace HW := rW HW hb4
  replace HX := rA HX hb4
  replace HA1 := rS HA1 hb4
  replace HR1 := rA HR1 hb4
  replace HI1 := rI HI1 hb4
  replace HA2 := rS HA2 hb4
  replace HR2 := rA HR2 hb4
  replace HI3 := rG HI3 hb4
  clear d0 d1 d2 d3 d4 d5 d6 d7 d8 d9 d10 d11 d12
  obtain rfl := SailE.one HE.out hv
  clear hv hb4
  have hzb : Below w4.heap.size w4 ((w4.alloc O.zs).alloc O.zs) := bvia (al _ _) (al _ _)
  have HV : Aside (Below w4.heap.size w4 ((w4.alloc O.zs).alloc O.zs)) := hzb
  have hw4 : w.heap.size < w4.heap.size := HX.out.lt
  have hr1 : w1.heap.size < w4.heap.size := HR1.out.lt
  have hr2 : w2.heap.size < w4.heap.size := HR2.out.lt
  have HZ1 : Aside (RowIs ((w4.alloc O.zs).alloc O.zs) (w4.heap.size) C.zs) := (RowIs.new w4 C.zs 32).below (al _ _)
  have HZ2 : Aside (RowIs ((w4.alloc O.zs).alloc O.zs) (w4.heap.size + 1) C.zs) := by
    have := RowIs.new (w4.alloc O.zs) C.zs 32
    rwa [World.size_alloc] at this
  obtain ⟨rfl, rfl, rfl⟩ := turn_out HE.out (by omega) HS1.out
  obtain ⟨rfl, f, hf1, hf2, hf3⟩ := close_ok HE.out HC.out HS2.out
  have HF1 := asv hf1
  have HF2 := asv hf2
  have HF3 := asv hf3
  clear hf1 hf2 hf3
  clear HS1 HS2
  obtain ⟨d0, d1, d2, d3, d4, d5, d6, d7, d8, d9, d10, d11, d12⟩ := SRow.box HX.out
  replace HW := rW HW hzb
  have HX' := rA HX hzb
  replace HR1 := rA HR1 hzb
  replace HR2 := rA HR2 hzb
  have HZV : Aside (w4.heap.size + 1 + 1 ≤ ((w4.alloc O.zs).alloc O.zs).heap.size) := by show _ ≤ _; simp only [World.size_alloc]; omega
  clear hzb
  have hc := HC.out
  go_upto_region 12 with (fail)
  clear hc
  go_wp2_with fail
  clear d0 d1 d2 d3 d4 d5 d6 d7 d8 d9 d10 d11 d12 HX
  have HX := HX'
  clear HX'
  refine (closeOf_is x a f y2 w _ HW.out HS.out HE.out HF1.out HF2.out HF3.out).mono ?_
  rintro e u2 ⟨b2, rfl, hz2, hc2⟩
  replace HW := rW HW hc2
  replace HX := rA HX hc2
  replace HR1 := rA HR1 hc2
  replace HR2 := rA HR2 hc2
  replace HZ1 := rA HZ1 hc2
  replace HZ2 := rA HZ2 hc2
  replace HV := rW HV hc2
  have HQ2 : Aside (SailTw w.heap.size (w4.heap.size + 1 + 1) u2 y2 b2) := hz2.mono HZV.out
  clear hz2 hc2
  go_wp2_with ((with_reducible refine wpList_stO (w4.heap.size + 1) C.zs (C.sail y2 b2) ?_ ?_ ?_ HZ2.out ?_ ?_ ?_); exact Tryz.sizeSail; rfl; rfl; rfl; exact sail_one _ _; intro s2 hr2' hg2; have hsz2 : w4.heap.size ≤ u2.heap.size := HV.out.size; replace HW := gW HW (by omega) hg2 (by omega); replace HX := gA HX hg2 (by omega); replace HR1 := gA HR1 hg2 (by omega); replace HR2 := gA HR2 hg2 (by omega); replace HZ1 := gA HZ1 hg2 (by omega); replace HZ2 : Aside (SRow s2 (w4.heap.size + 1) y2 b2) := hr2'; replace HV := gW HV (by omega) hg2 (by omega); replace HQ2 := tG HQ2 hg2 (by omega) (by omega) (by omega); obtain ⟨d0, d1, d2, d3, d4, d5, d6, d7, d8, d9, d10, d11, d12⟩ := SRow.box HX.out; clear hr2' hg2 hsz2)
  clear d0 d1 d2 d3 d4 d5 d6 d7 d8 d9 d10 d11 d12
  refine (planOf_any x a _ (HS.out.below HW.out) (sail_ok HE.out).2.2.2.1 (sail_ok HE.out).2.2.2.2.1).mono ?_
  rintro e u3 ⟨v8, rfl, hO8, hc3⟩
  replace HQ2 := tB HQ2 hc3 (by have := HV.out.size; omega)
  replace HW := rW HW hc3
  replace HX := rA HX hc3
  replace HR1 := rA HR1 hc3
  replace HR2 := rA HR2 hc3
  replace HZ1 := rA HZ1 hc3
  replace HZ2 := rA HZ2 hc3
  replace HV := rW HV hc3
  obtain ⟨ao8, c8, rfl, hI8⟩ := OwnC.at cellsG_len hO8
  have HI8 : Aside (GAt u3 ao8 c8 (P.planL x.bks)) := hI8
  clear hO8 hI8 hc3
  go_wp2_with fail
  refine (voyageBegun_any _).mono ?_
  rintro e wb ⟨rfl, hbb⟩
  replace HQ2 := tB HQ2 hbb (by have := HV.out.size; omega)
  replace HW := rW HW hbb
  replace HX := rA HX hbb
  replace HR1 := rA HR1 hbb
  replace HR2 := rA HR2 hbb
  replace HZ1 := rA HZ1 hbb
  replace HZ2 := rA HZ2 hbb
  replace HV := rW HV hbb
  replace HI8 := rG HI8 hbb
  clear hbb
  obtain ⟨d0, d1, d2, d3, d4, d5, d6, d7, d8, d9, d10, d11, d12⟩ := SRow.box HR1.out
  obtain ⟨e0, e1, e2, e3, e4, e5, e6, e7, e8, e9, e10, e11, e12⟩ := zs_cells HZ1.out
  go_wp2_with fail
  refine (sailingIs_any 3 P.zeroS P.zeroS a1 A.zeroS _ (HA1.out.below HV.out) (fun h => absurd h (by decide)) (fun _ => rfl)).mono ?_
  rintro e wi1 ⟨rfl, hbi1⟩
  replace HQ2 := tB HQ2 hbi1 (by have := HV.out.size; omega)
  replace HW := rW HW hbi1
  replace HX := rA HX hbi1
  replace HR1 := rA HR1 hbi1
  replace HR2 := rA HR2 hbi1
  replace HZ1 := rA HZ1 hbi1
  replace HZ2 := rA HZ2 hbi1
  replace HV := rW HV hbi1
  replace HI8 := rG HI8 hbi1
  clear d0 d1 d2 d3 d4 d5 d6 d7 d8 d9 d10 d11 d12 e0 e1 e2 e3 e4 e5 e6 e7 e8 e9 e10 e11 e12 hbi1
  go_wp2_with fail
  refine (sameInts_eq ao1 none c1 0 [] _ (SlAt.below RInt.mono HI1.out HV.out) (SlAt.nilOf _)).mono ?_
  rintro e wj ⟨rfl, hbj⟩
  replace HQ2 := tB HQ2 hbj (by have := HV.out.size; omega)
  replace HW := rW HW hbj
  replace HX := rA HX hbj
  replace HR1 := rA HR1 hbj
  replace HR2 := rA HR2 hbj
  replace HZ1 := rA HZ1 hbj
  replace HZ2 := rA HZ2 hbj
  replace HV := rW HV hbj
  replace HI8 := rG HI8 hbj
  clear hbj
  obtain ⟨d0, d1, d2, d3, d4, d5, d6, d7, d8, d9, d10, d11, d12⟩ := SRow.box HR2.out
  obtain ⟨e0, e1, e2, e3, e4, e5, e6, e7, e8, e9, e10, e11, e12⟩ := SRow.box HZ2.out
  go_wp2_with fail
  refine (sailingIs_any 0 y2 y2 a2 b2 _ (HA2.out.below HV.out) (fun _ => ⟨rfl, HQ2.out.at⟩) (fun h => absurd rfl h)).mono ?_
  rintro e wi2 ⟨rfl, hbi2⟩
  replace HQ2 := tB HQ2 hbi2 (by have := HV.out.size; omega)
  replace HW := rW HW hbi2
  replace HX := rA HX hbi2
  replace HR1 := rA HR1 hbi2
  replace HR2 := rA HR2 hbi2
  replace HZ1 := rA HZ1 hbi2
  replace HZ2 := rA HZ2 hbi2
  replace HV := rW HV hbi2
  replace HI8 := rG HI8 hbi2
  clear d0 d1 d2 d3 d4 d5 d6 d7 d8 d9 d10 d11 d12 e0 e1 e2 e3 e4 e5 e6 e7 e8 e9 e10 e11 e12 hbi2
  go_wp2_with fail
  refine (sameEdges_any ao3 ao8 c3 c8 (P.planL x.bks) (P.planL x.bks) _ (SlAt.below (RC.mono _) HI3.out HV.out) HI8.out).mono ?_
  rintro e wk ⟨rfl, hbk⟩
  have HWK := rW HW hbk
  clear hbk
  rw [decide_eq_true rfl]
  go_wp2
  go_ret
  exact ⟨rfl, HWK.out⟩

set_option maxHeartbeats 32000000 in
theorem voyageTells_big_ok (x : Sail) (a : SailA) (day : Int) (w : World) (hs : SailAt w x a) (HE : Aside (P.SailE x 0)) (ht0 : ¬ day < 0) (ht : 9999 < day) (hc : x.cl = false) :
    Calls Tryz.prog 8 #[V.sail x a, .int .i64 day] w fun e w' => e = .returned (.bool true) ∧ Below w.heap.size w w' := by
  have HS : Aside (SailAt w x a) := hs
  have HW : Aside (Below w.heap.size w (W.sail w x a)) := sail_below w x a
  have HX : Aside (SRow (W.sail w x a) w.heap.size x a) := RowIs.new w _ _
  clear hs
  have HC := asv hc
  clear hc
  obtain ⟨d0, d1, d2, d3, d4, d5, d6, d7, d8, d9, d10, d11, d12⟩ := SRow.box HX.out
  go_enter Tryz.func8, Tryz.ntmps8
  go_wp2_with fail
  refine (voyTurn_any x a day _ (HS.out.below HW.out)).mono ?_
  rintro e w1 ⟨r1, y1, a1, v1, l1, rfl, hS1, hU1, hO1, hb1⟩
  replace HW := rW HW hb1
  replace HX := rA HX hb1
  clear d0 d1 d2 d3 d4 d5 d6 d7 d8 d9 d10 d11 d12
  obtain ⟨ao1, c1, rfl, hI1⟩ := OwnJ.at hO1
  have HS1 := asv hS1
  have hs1' := sail_below w1 y1 a1
  have HA1 : Aside (SailAt (W.sail w1 y1 a1) y1 a1) := hU1.at.below hs1'
  have HR1 : Aside (SRow (W.sail w1 y1 a1) w1.heap.size y1 a1) := RowIs.new w1 _ _
  have HI1 : Aside (IntsAt (W.sail w1 y1 a1) ao1 c1 l1) := SlAt.below RInt.mono hI1 hs1'
  replace HW := rW HW hs1'
  replace HX := rA HX hs1'
  clear hS1 hU1 hO1 hI1 hb1 hs1'
  obtain ⟨d0, d1, d2, d3, d4, d5, d6, d7, d8, d9, d10, d11, d12⟩ := SRow.box HX.out
  go_wp2_with fail
  refine (voyClose_any x a _ (HS.out.below HW.out)).mono ?_
  rintro e w2 ⟨r2, y2, a2, rfl, hS2, hU2, hb2⟩
  replace HW := rW HW hb2
  replace HX := rA HX hb2
  replace HA1 := rS HA1 hb2
  replace HR1 := rA HR1 hb2
  replace HI1 := rI HI1 hb2
  clear d0 d1 d2 d3 d4 d5 d6 d7 d8 d9 d10 d11 d12
  have HS2 := asv hS2
  have hs2' := sail_below w2 y2 a2
  have HA2 : Aside (SailAt (W.sail w2 y2 a2) y2 a2) := hU2.at.below hs2'
  have HR2 : Aside (SRow (W.sail w2 y2 a2) w2.heap.size y2 a2) := RowIs.new w2 _ _
  replace HW := rW HW hs2'
  replace HX := rA HX hs2'
  replace HA1 := rS HA1 hs2'
  replace HR1 := rA HR1 hs2'
  replace HI1 := rI HI1 hs2'
  clear hS2 hU2 hb2 hs2'
  obtain ⟨d0, d1, d2, d3, d4, d5, d6, d7, d8, d9, d10, d11, d12⟩ := SRow.box HX.out
  go_wp2_with fail
  refine (voyPlan_any x a _ (HS.out.below HW.out)).mono ?_
  rintro e w3 ⟨r3, v3, rfl, hS3, hO3, hb3⟩
  replace HW := rW HW hb3
  replace HX := rA HX hb3
  replace HA1 := rS HA1 hb3
  replace HR1 := rA HR1 hb3
  replace HI1 := rI HI1 hb3
  replace HA2 := rS HA2 hb3
  replace HR2 := rA HR2 hb3
  clear d0 d1 d2 d3 d4 d5 d6 d7 d8 d9 d10 d11 d12
  obtain rfl := SailE.one HE.out hS3
  rw [show P.ok 0 (P.planL x.bks) = (P.planL x.bks) from if_pos rfl] at hO3
  obtain ⟨ao3, c3, rfl, hI3⟩ := OwnC.at cellsG_len hO3
  have HI3 : Aside (GAt w3 ao3 c3 (P.planL x.bks)) := hI3
  clear hS3 hO3 hI3 hb3
  obtain ⟨d0, d1, d2, d3, d4, d5, d6, d7, d8, d9, d10, d11, d12⟩ := SRow.box HX.out
  go_wp2_with fail
  refine (refSail_any x a _ (HS.out.below HW.out)).mono ?_
  rintro e w4 ⟨v4, rfl, hv, hb4⟩
  replace HW := rW HW hb4
  replace HX := rA HX hb4
  replace HA1 := rS HA1 hb4
  replace HR1 := rA HR1 hb4
  replace HI1 := rI HI1 hb4
  replace HA2 := rS HA2 hb4
  replace HR2 := rA HR2 hb4
  replace HI3 := rG HI3 hb4
  clear d0 d1 d2 d3 d4 d5 d6 d7 d8 d9 d10 d11 d12
  obtain rfl := SailE.one HE.out hv
  clear hv hb4
  have hzb : Below w4.heap.size w4 ((w4.alloc O.zs).alloc O.zs) := bvia (al _ _) (al _ _)
  have HV : Aside (Below w4.heap.size w4 ((w4.alloc O.zs).alloc O.zs)) := hzb
  have hw4 : w.heap.size < w4.heap.size := HX.out.lt
  have hr1 : w1.heap.size < w4.heap.size := HR1.out.lt
  have hr2 : w2.heap.size < w4.heap.size := HR2.out.lt
  have HZ1 : Aside (RowIs ((w4.alloc O.zs).alloc O.zs) (w4.heap.size) C.zs) := (RowIs.new w4 C.zs 32).below (al _ _)
  have HZ2 : Aside (RowIs ((w4.alloc O.zs).alloc O.zs) (w4.heap.size + 1) C.zs) := by
    have := RowIs.new (w4.alloc O.zs) C.zs 32
    rwa [World.size_alloc] at this
  obtain ⟨rfl, rfl, rfl⟩ := turn_out HE.out (by omega) HS1.out
  obtain ⟨rfl, f, hf1, hf2, hf3⟩ := close_ok HE.out HC.out HS2.out
  have HF1 := asv hf1
  have HF2 := asv hf2
  have HF3 := asv hf3
  clear hf1 hf2 hf3
  clear HS1 HS2
  obtain ⟨d0, d1, d2, d3, d4, d5, d6, d7, d8, d9, d10, d11, d12⟩ := SRow.box HX.out
  replace HW := rW HW hzb
  have HX' := rA HX hzb
  replace HR1 := rA HR1 hzb
  replace HR2 := rA HR2 hzb
  have HZV : Aside (w4.heap.size + 1 + 1 ≤ ((w4.alloc O.zs).alloc O.zs).heap.size) := by show _ ≤ _; simp only [World.size_alloc]; omega
  clear hzb
  have hc := HC.out
  go_upto_region 12 with (fail)
  clear hc
  go_wp2_with fail
  clear d0 d1 d2 d3 d4 d5 d6 d7 d8 d9 d10 d11 d12 HX
  have HX := HX'
  clear HX'
  refine (closeOf_is x a f y2 w _ HW.out HS.out HE.out HF1.out HF2.out HF3.out).mono ?_
  rintro e u2 ⟨b2, rfl, hz2, hc2⟩
  replace HW := rW HW hc2
  replace HX := rA HX hc2
  replace HR1 := rA HR1 hc2
  replace HR2 := rA HR2 hc2
  replace HZ1 := rA HZ1 hc2
  replace HZ2 := rA HZ2 hc2
  replace HV := rW HV hc2
  have HQ2 : Aside (SailTw w.heap.size (w4.heap.size + 1 + 1) u2 y2 b2) := hz2.mono HZV.out
  clear hz2 hc2
  go_wp2_with ((with_reducible refine wpList_stO (w4.heap.size + 1) C.zs (C.sail y2 b2) ?_ ?_ ?_ HZ2.out ?_ ?_ ?_); exact Tryz.sizeSail; rfl; rfl; rfl; exact sail_one _ _; intro s2 hr2' hg2; have hsz2 : w4.heap.size ≤ u2.heap.size := HV.out.size; replace HW := gW HW (by omega) hg2 (by omega); replace HX := gA HX hg2 (by omega); replace HR1 := gA HR1 hg2 (by omega); replace HR2 := gA HR2 hg2 (by omega); replace HZ1 := gA HZ1 hg2 (by omega); replace HZ2 : Aside (SRow s2 (w4.heap.size + 1) y2 b2) := hr2'; replace HV := gW HV (by omega) hg2 (by omega); replace HQ2 := tG HQ2 hg2 (by omega) (by omega) (by omega); obtain ⟨d0, d1, d2, d3, d4, d5, d6, d7, d8, d9, d10, d11, d12⟩ := SRow.box HX.out; clear hr2' hg2 hsz2)
  clear d0 d1 d2 d3 d4 d5 d6 d7 d8 d9 d10 d11 d12
  refine (planOf_any x a _ (HS.out.below HW.out) (sail_ok HE.out).2.2.2.1 (sail_ok HE.out).2.2.2.2.1).mono ?_
  rintro e u3 ⟨v8, rfl, hO8, hc3⟩
  replace HQ2 := tB HQ2 hc3 (by have := HV.out.size; omega)
  replace HW := rW HW hc3
  replace HX := rA HX hc3
  replace HR1 := rA HR1 hc3
  replace HR2 := rA HR2 hc3
  replace HZ1 := rA HZ1 hc3
  replace HZ2 := rA HZ2 hc3
  replace HV := rW HV hc3
  obtain ⟨ao8, c8, rfl, hI8⟩ := OwnC.at cellsG_len hO8
  have HI8 : Aside (GAt u3 ao8 c8 (P.planL x.bks)) := hI8
  clear hO8 hI8 hc3
  go_wp2_with fail
  refine (voyageBegun_any _).mono ?_
  rintro e wb ⟨rfl, hbb⟩
  replace HQ2 := tB HQ2 hbb (by have := HV.out.size; omega)
  replace HW := rW HW hbb
  replace HX := rA HX hbb
  replace HR1 := rA HR1 hbb
  replace HR2 := rA HR2 hbb
  replace HZ1 := rA HZ1 hbb
  replace HZ2 := rA HZ2 hbb
  replace HV := rW HV hbb
  replace HI8 := rG HI8 hbb
  clear hbb
  obtain ⟨d0, d1, d2, d3, d4, d5, d6, d7, d8, d9, d10, d11, d12⟩ := SRow.box HR1.out
  obtain ⟨e0, e1, e2, e3, e4, e5, e6, e7, e8, e9, e10, e11, e12⟩ := zs_cells HZ1.out
  go_wp2_with fail
  refine (sailingIs_any 3 P.zeroS P.zeroS a1 A.zeroS _ (HA1.out.below HV.out) (fun h => absurd h (by decide)) (fun _ => rfl)).mono ?_
  rintro e wi1 ⟨rfl, hbi1⟩
  replace HQ2 := tB HQ2 hbi1 (by have := HV.out.size; omega)
  replace HW := rW HW hbi1
  replace HX := rA HX hbi1
  replace HR1 := rA HR1 hbi1
  replace HR2 := rA HR2 hbi1
  replace HZ1 := rA HZ1 hbi1
  replace HZ2 := rA HZ2 hbi1
  replace HV := rW HV hbi1
  replace HI8 := rG HI8 hbi1
  clear d0 d1 d2 d3 d4 d5 d6 d7 d8 d9 d10 d11 d12 e0 e1 e2 e3 e4 e5 e6 e7 e8 e9 e10 e11 e12 hbi1
  go_wp2_with fail
  refine (sameInts_eq ao1 none c1 0 [] _ (SlAt.below RInt.mono HI1.out HV.out) (SlAt.nilOf _)).mono ?_
  rintro e wj ⟨rfl, hbj⟩
  replace HQ2 := tB HQ2 hbj (by have := HV.out.size; omega)
  replace HW := rW HW hbj
  replace HX := rA HX hbj
  replace HR1 := rA HR1 hbj
  replace HR2 := rA HR2 hbj
  replace HZ1 := rA HZ1 hbj
  replace HZ2 := rA HZ2 hbj
  replace HV := rW HV hbj
  replace HI8 := rG HI8 hbj
  clear hbj
  obtain ⟨d0, d1, d2, d3, d4, d5, d6, d7, d8, d9, d10, d11, d12⟩ := SRow.box HR2.out
  obtain ⟨e0, e1, e2, e3, e4, e5, e6, e7, e8, e9, e10, e11, e12⟩ := SRow.box HZ2.out
  go_wp2_with fail
  refine (sailingIs_any 0 y2 y2 a2 b2 _ (HA2.out.below HV.out) (fun _ => ⟨rfl, HQ2.out.at⟩) (fun h => absurd rfl h)).mono ?_
  rintro e wi2 ⟨rfl, hbi2⟩
  replace HQ2 := tB HQ2 hbi2 (by have := HV.out.size; omega)
  replace HW := rW HW hbi2
  replace HX := rA HX hbi2
  replace HR1 := rA HR1 hbi2
  replace HR2 := rA HR2 hbi2
  replace HZ1 := rA HZ1 hbi2
  replace HZ2 := rA HZ2 hbi2
  replace HV := rW HV hbi2
  replace HI8 := rG HI8 hbi2
  clear d0 d1 d2 d3 d4 d5 d6 d7 d8 d9 d10 d11 d12 e0 e1 e2 e3 e4 e5 e6 e7 e8 e9 e10 e11 e12 hbi2
  go_wp2_with fail
  refine (sameEdges_any ao3 ao8 c3 c8 (P.planL x.bks) (P.planL x.bks) _ (SlAt.below (RC.mono _) HI3.out HV.out) HI8.out).mono ?_
  rintro e wk ⟨rfl, hbk⟩
  have HWK := rW HW hbk
  clear hbk
  rw [decide_eq_true rfl]
  go_wp2
  go_ret
  exact ⟨rfl, HWK.out⟩

set_option maxHeartbeats 32000000 in
theorem voyageTells_old_ok (x : Sail) (a : SailA) (day : Int) (w : World) (hs : SailAt w x a) (HE : Aside (P.SailE x 0)) (ht0 : ¬ day < 0) (ht1 : ¬ 9999 < day) (ht : day ≤ x.day) (hc : x.cl = false) :
    Calls Tryz.prog 8 #[V.sail x a, .int .i64 day] w fun e w' => e = .returned (.bool true) ∧ Below w.heap.size w w' := by
  have HS : Aside (SailAt w x a) := hs
  have HW : Aside (Below w.heap.size w (W.sail w x a)) := sail_below w x a
  have HX : Aside (SRow (W.sail w x a) w.heap.size x a) := RowIs.new w _ _
  clear hs
  have HC := asv hc
  clear hc
  obtain ⟨d0, d1, d2, d3, d4, d5, d6, d7, d8, d9, d10, d11, d12⟩ := SRow.box HX.out
  go_enter Tryz.func8, Tryz.ntmps8
  go_wp2_with fail
  refine (voyTurn_any x a day _ (HS.out.below HW.out)).mono ?_
  rintro e w1 ⟨r1, y1, a1, v1, l1, rfl, hS1, hU1, hO1, hb1⟩
  replace HW := rW HW hb1
  replace HX := rA HX hb1
  clear d0 d1 d2 d3 d4 d5 d6 d7 d8 d9 d10 d11 d12
  obtain ⟨ao1, c1, rfl, hI1⟩ := OwnJ.at hO1
  have HS1 := asv hS1
  have hs1' := sail_below w1 y1 a1
  have HA1 : Aside (SailAt (W.sail w1 y1 a1) y1 a1) := hU1.at.below hs1'
  have HR1 : Aside (SRow (W.sail w1 y1 a1) w1.heap.size y1 a1) := RowIs.new w1 _ _
  have HI1 : Aside (IntsAt (W.sail w1 y1 a1) ao1 c1 l1) := SlAt.below RInt.mono hI1 hs1'
  replace HW := rW HW hs1'
  replace HX := rA HX hs1'
  clear hS1 hU1 hO1 hI1 hb1 hs1'
  obtain ⟨d0, d1, d2, d3, d4, d5, d6, d7, d8, d9, d10, d11, d12⟩ := SRow.box HX.out
  go_wp2_with fail
  refine (voyClose_any x a _ (HS.out.below HW.out)).mono ?_
  rintro e w2 ⟨r2, y2, a2, rfl, hS2, hU2, hb2⟩
  replace HW := rW HW hb2
  replace HX := rA HX hb2
  replace HA1 := rS HA1 hb2
  replace HR1 := rA HR1 hb2
  replace HI1 := rI HI1 hb2
  clear d0 d1 d2 d3 d4 d5 d6 d7 d8 d9 d10 d11 d12
  have HS2 := asv hS2
  have hs2' := sail_below w2 y2 a2
  have HA2 : Aside (SailAt (W.sail w2 y2 a2) y2 a2) := hU2.at.below hs2'
  have HR2 : Aside (SRow (W.sail w2 y2 a2) w2.heap.size y2 a2) := RowIs.new w2 _ _
  replace HW := rW HW hs2'
  replace HX := rA HX hs2'
  replace HA1 := rS HA1 hs2'
  replace HR1 := rA HR1 hs2'
  replace HI1 := rI HI1 hs2'
  clear hS2 hU2 hb2 hs2'
  obtain ⟨d0, d1, d2, d3, d4, d5, d6, d7, d8, d9, d10, d11, d12⟩ := SRow.box HX.out
  go_wp2_with fail
  refine (voyPlan_any x a _ (HS.out.below HW.out)).mono ?_
  rintro e w3 ⟨r3, v3, rfl, hS3, hO3, hb3⟩
  replace HW := rW HW hb3
  replace HX := rA HX hb3
  replace HA1 := rS HA1 hb3
  replace HR1 := rA HR1 hb3
  replace HI1 := rI HI1 hb3
  replace HA2 := rS HA2 hb3
  replace HR2 := rA HR2 hb3
  clear d0 d1 d2 d3 d4 d5 d6 d7 d8 d9 d10 d11 d12
  obtain rfl := SailE.one HE.out hS3
  rw [show P.ok 0 (P.planL x.bks) = (P.planL x.bks) from if_pos rfl] at hO3
  obtain ⟨ao3, c3, rfl, hI3⟩ := OwnC.at cellsG_len hO3
  have HI3 : Aside (GAt w3 ao3 c3 (P.planL x.bks)) := hI3
  clear hS3 hO3 hI3 hb3
  obtain ⟨d0, d1, d2, d3, d4, d5, d6, d7, d8, d9, d10, d11, d12⟩ := SRow.box HX.out
  go_wp2_with fail
  refine (refSail_any x a _ (HS.out.below HW.out)).mono ?_
  rintro e w4 ⟨v4, rfl, hv, hb4⟩
  replace HW := rW HW hb4
  replace HX := rA HX hb4
  replace HA1 := rS HA1 hb4
  replace HR1 := rA HR1 hb4
  replace HI1 := rI HI1 hb4
  replace HA2 := rS HA2 hb4
  replace HR2 := rA HR2 hb4
  replace HI3 := rG HI3 hb4
  clear d0 d1 d2 d3 d4 d5 d6 d7 d8 d9 d10 d11 d12
  obtain rfl := SailE.one HE.out hv
  clear hv hb4
  have hzb : Below w4.heap.size w4 ((w4.alloc O.zs).alloc O.zs) := bvia (al _ _) (al _ _)
  have HV : Aside (Below w4.heap.size w4 ((w4.alloc O.zs).alloc O.zs)) := hzb
  have hw4 : w.heap.size < w4.heap.size := HX.out.lt
  have hr1 : w1.heap.size < w4.heap.size := HR1.out.lt
  have hr2 : w2.heap.size < w4.heap.size := HR2.out.lt
  have HZ1 : Aside (RowIs ((w4.alloc O.zs).alloc O.zs) (w4.heap.size) C.zs) := (RowIs.new w4 C.zs 32).below (al _ _)
  have HZ2 : Aside (RowIs ((w4.alloc O.zs).alloc O.zs) (w4.heap.size + 1) C.zs) := by
    have := RowIs.new (w4.alloc O.zs) C.zs 32
    rwa [World.size_alloc] at this
  obtain ⟨rfl, rfl, rfl⟩ := turn_old HE.out (by omega) (by omega) HS1.out
  obtain ⟨rfl, f, hf1, hf2, hf3⟩ := close_ok HE.out HC.out HS2.out
  have HF1 := asv hf1
  have HF2 := asv hf2
  have HF3 := asv hf3
  clear hf1 hf2 hf3
  clear HS1 HS2
  obtain ⟨d0, d1, d2, d3, d4, d5, d6, d7, d8, d9, d10, d11, d12⟩ := SRow.box HX.out
  replace HW := rW HW hzb
  have HX' := rA HX hzb
  replace HR1 := rA HR1 hzb
  replace HR2 := rA HR2 hzb
  have HZV : Aside (w4.heap.size + 1 + 1 ≤ ((w4.alloc O.zs).alloc O.zs).heap.size) := by show _ ≤ _; simp only [World.size_alloc]; omega
  clear hzb
  have hc := HC.out
  go_upto_region 12 with (fail)
  clear hc
  go_wp2_with fail
  clear d0 d1 d2 d3 d4 d5 d6 d7 d8 d9 d10 d11 d12 HX
  have HX := HX'
  clear HX'
  refine (closeOf_is x a f y2 w _ HW.out HS.out HE.out HF1.out HF2.out HF3.out).mono ?_
  rintro e u2 ⟨b2, rfl, hz2, hc2⟩
  replace HW := rW HW hc2
  replace HX := rA HX hc2
  replace HR1 := rA HR1 hc2
  replace HR2 := rA HR2 hc2
  replace HZ1 := rA HZ1 hc2
  replace HZ2 := rA HZ2 hc2
  replace HV := rW HV hc2
  have HQ2 : Aside (SailTw w.heap.size (w4.heap.size + 1 + 1) u2 y2 b2) := hz2.mono HZV.out
  clear hz2 hc2
  go_wp2_with ((with_reducible refine wpList_stO (w4.heap.size + 1) C.zs (C.sail y2 b2) ?_ ?_ ?_ HZ2.out ?_ ?_ ?_); exact Tryz.sizeSail; rfl; rfl; rfl; exact sail_one _ _; intro s2 hr2' hg2; have hsz2 : w4.heap.size ≤ u2.heap.size := HV.out.size; replace HW := gW HW (by omega) hg2 (by omega); replace HX := gA HX hg2 (by omega); replace HR1 := gA HR1 hg2 (by omega); replace HR2 := gA HR2 hg2 (by omega); replace HZ1 := gA HZ1 hg2 (by omega); replace HZ2 : Aside (SRow s2 (w4.heap.size + 1) y2 b2) := hr2'; replace HV := gW HV (by omega) hg2 (by omega); replace HQ2 := tG HQ2 hg2 (by omega) (by omega) (by omega); obtain ⟨d0, d1, d2, d3, d4, d5, d6, d7, d8, d9, d10, d11, d12⟩ := SRow.box HX.out; clear hr2' hg2 hsz2)
  clear d0 d1 d2 d3 d4 d5 d6 d7 d8 d9 d10 d11 d12
  refine (planOf_any x a _ (HS.out.below HW.out) (sail_ok HE.out).2.2.2.1 (sail_ok HE.out).2.2.2.2.1).mono ?_
  rintro e u3 ⟨v8, rfl, hO8, hc3⟩
  replace HQ2 := tB HQ2 hc3 (by have := HV.out.size; omega)
  replace HW := rW HW hc3
  replace HX := rA HX hc3
  replace HR1 := rA HR1 hc3
  replace HR2 := rA HR2 hc3
  replace HZ1 := rA HZ1 hc3
  replace HZ2 := rA HZ2 hc3
  replace HV := rW HV hc3
  obtain ⟨ao8, c8, rfl, hI8⟩ := OwnC.at cellsG_len hO8
  have HI8 : Aside (GAt u3 ao8 c8 (P.planL x.bks)) := hI8
  clear hO8 hI8 hc3
  go_wp2_with fail
  refine (voyageBegun_any _).mono ?_
  rintro e wb ⟨rfl, hbb⟩
  replace HQ2 := tB HQ2 hbb (by have := HV.out.size; omega)
  replace HW := rW HW hbb
  replace HX := rA HX hbb
  replace HR1 := rA HR1 hbb
  replace HR2 := rA HR2 hbb
  replace HZ1 := rA HZ1 hbb
  replace HZ2 := rA HZ2 hbb
  replace HV := rW HV hbb
  replace HI8 := rG HI8 hbb
  clear hbb
  obtain ⟨d0, d1, d2, d3, d4, d5, d6, d7, d8, d9, d10, d11, d12⟩ := SRow.box HR1.out
  obtain ⟨e0, e1, e2, e3, e4, e5, e6, e7, e8, e9, e10, e11, e12⟩ := zs_cells HZ1.out
  go_wp2_with fail
  refine (sailingIs_any 4 P.zeroS P.zeroS a1 A.zeroS _ (HA1.out.below HV.out) (fun h => absurd h (by decide)) (fun _ => rfl)).mono ?_
  rintro e wi1 ⟨rfl, hbi1⟩
  replace HQ2 := tB HQ2 hbi1 (by have := HV.out.size; omega)
  replace HW := rW HW hbi1
  replace HX := rA HX hbi1
  replace HR1 := rA HR1 hbi1
  replace HR2 := rA HR2 hbi1
  replace HZ1 := rA HZ1 hbi1
  replace HZ2 := rA HZ2 hbi1
  replace HV := rW HV hbi1
  replace HI8 := rG HI8 hbi1
  clear d0 d1 d2 d3 d4 d5 d6 d7 d8 d9 d10 d11 d12 e0 e1 e2 e3 e4 e5 e6 e7 e8 e9 e10 e11 e12 hbi1
  go_wp2_with fail
  refine (sameInts_eq ao1 none c1 0 [] _ (SlAt.below RInt.mono HI1.out HV.out) (SlAt.nilOf _)).mono ?_
  rintro e wj ⟨rfl, hbj⟩
  replace HQ2 := tB HQ2 hbj (by have := HV.out.size; omega)
  replace HW := rW HW hbj
  replace HX := rA HX hbj
  replace HR1 := rA HR1 hbj
  replace HR2 := rA HR2 hbj
  replace HZ1 := rA HZ1 hbj
  replace HZ2 := rA HZ2 hbj
  replace HV := rW HV hbj
  replace HI8 := rG HI8 hbj
  clear hbj
  obtain ⟨d0, d1, d2, d3, d4, d5, d6, d7, d8, d9, d10, d11, d12⟩ := SRow.box HR2.out
  obtain ⟨e0, e1, e2, e3, e4, e5, e6, e7, e8, e9, e10, e11, e12⟩ := SRow.box HZ2.out
  go_wp2_with fail
  refine (sailingIs_any 0 y2 y2 a2 b2 _ (HA2.out.below HV.out) (fun _ => ⟨rfl, HQ2.out.at⟩) (fun h => absurd rfl h)).mono ?_
  rintro e wi2 ⟨rfl, hbi2⟩
  replace HQ2 := tB HQ2 hbi2 (by have := HV.out.size; omega)
  replace HW := rW HW hbi2
  replace HX := rA HX hbi2
  replace HR1 := rA HR1 hbi2
  replace HR2 := rA HR2 hbi2
  replace HZ1 := rA HZ1 hbi2
  replace HZ2 := rA HZ2 hbi2
  replace HV := rW HV hbi2
  replace HI8 := rG HI8 hbi2
  clear d0 d1 d2 d3 d4 d5 d6 d7 d8 d9 d10 d11 d12 e0 e1 e2 e3 e4 e5 e6 e7 e8 e9 e10 e11 e12 hbi2
  go_wp2_with fail
  refine (sameEdges_any ao3 ao8 c3 c8 (P.planL x.bks) (P.planL x.bks) _ (SlAt.below (RC.mono _) HI3.out HV.out) HI8.out).mono ?_
  rintro e wk ⟨rfl, hbk⟩
  have HWK := rW HW hbk
  clear hbk
  rw [decide_eq_true rfl]
  go_wp2
  go_ret
  exact ⟨rfl, HWK.out⟩

set_option maxHeartbeats 32000000 in
theorem voyageTells_ok_ok (x : Sail) (a : SailA) (day : Int) (w : World) (hs : SailAt w x a) (HE : Aside (P.SailE x 0)) (ht0 : ¬ day < 0) (ht1 : ¬ 9999 < day) (ht : ¬ day ≤ x.day) (hc : x.cl = false) :
    Calls Tryz.prog 8 #[V.sail x a, .int .i64 day] w fun e w' => e = .returned (.bool true) ∧ Below w.heap.size w w' := by
  have HS : Aside (SailAt w x a) := hs
  have HW : Aside (Below w.heap.size w (W.sail w x a)) := sail_below w x a
  have HX : Aside (SRow (W.sail w x a) w.heap.size x a) := RowIs.new w _ _
  clear hs
  have HC := asv hc
  clear hc
  obtain ⟨d0, d1, d2, d3, d4, d5, d6, d7, d8, d9, d10, d11, d12⟩ := SRow.box HX.out
  go_enter Tryz.func8, Tryz.ntmps8
  go_wp2_with fail
  refine (voyTurn_any x a day _ (HS.out.below HW.out)).mono ?_
  rintro e w1 ⟨r1, y1, a1, v1, l1, rfl, hS1, hU1, hO1, hb1⟩
  replace HW := rW HW hb1
  replace HX := rA HX hb1
  clear d0 d1 d2 d3 d4 d5 d6 d7 d8 d9 d10 d11 d12
  obtain ⟨ao1, c1, rfl, hI1⟩ := OwnJ.at hO1
  have HS1 := asv hS1
  have hs1' := sail_below w1 y1 a1
  have HA1 : Aside (SailAt (W.sail w1 y1 a1) y1 a1) := hU1.at.below hs1'
  have HR1 : Aside (SRow (W.sail w1 y1 a1) w1.heap.size y1 a1) := RowIs.new w1 _ _
  have HI1 : Aside (IntsAt (W.sail w1 y1 a1) ao1 c1 l1) := SlAt.below RInt.mono hI1 hs1'
  replace HW := rW HW hs1'
  replace HX := rA HX hs1'
  clear hS1 hU1 hO1 hI1 hb1 hs1'
  obtain ⟨d0, d1, d2, d3, d4, d5, d6, d7, d8, d9, d10, d11, d12⟩ := SRow.box HX.out
  go_wp2_with fail
  refine (voyClose_any x a _ (HS.out.below HW.out)).mono ?_
  rintro e w2 ⟨r2, y2, a2, rfl, hS2, hU2, hb2⟩
  replace HW := rW HW hb2
  replace HX := rA HX hb2
  replace HA1 := rS HA1 hb2
  replace HR1 := rA HR1 hb2
  replace HI1 := rI HI1 hb2
  clear d0 d1 d2 d3 d4 d5 d6 d7 d8 d9 d10 d11 d12
  have HS2 := asv hS2
  have hs2' := sail_below w2 y2 a2
  have HA2 : Aside (SailAt (W.sail w2 y2 a2) y2 a2) := hU2.at.below hs2'
  have HR2 : Aside (SRow (W.sail w2 y2 a2) w2.heap.size y2 a2) := RowIs.new w2 _ _
  replace HW := rW HW hs2'
  replace HX := rA HX hs2'
  replace HA1 := rS HA1 hs2'
  replace HR1 := rA HR1 hs2'
  replace HI1 := rI HI1 hs2'
  clear hS2 hU2 hb2 hs2'
  obtain ⟨d0, d1, d2, d3, d4, d5, d6, d7, d8, d9, d10, d11, d12⟩ := SRow.box HX.out
  go_wp2_with fail
  refine (voyPlan_any x a _ (HS.out.below HW.out)).mono ?_
  rintro e w3 ⟨r3, v3, rfl, hS3, hO3, hb3⟩
  replace HW := rW HW hb3
  replace HX := rA HX hb3
  replace HA1 := rS HA1 hb3
  replace HR1 := rA HR1 hb3
  replace HI1 := rI HI1 hb3
  replace HA2 := rS HA2 hb3
  replace HR2 := rA HR2 hb3
  clear d0 d1 d2 d3 d4 d5 d6 d7 d8 d9 d10 d11 d12
  obtain rfl := SailE.one HE.out hS3
  rw [show P.ok 0 (P.planL x.bks) = (P.planL x.bks) from if_pos rfl] at hO3
  obtain ⟨ao3, c3, rfl, hI3⟩ := OwnC.at cellsG_len hO3
  have HI3 : Aside (GAt w3 ao3 c3 (P.planL x.bks)) := hI3
  clear hS3 hO3 hI3 hb3
  obtain ⟨d0, d1, d2, d3, d4, d5, d6, d7, d8, d9, d10, d11, d12⟩ := SRow.box HX.out
  go_wp2_with fail
  refine (refSail_any x a _ (HS.out.below HW.out)).mono ?_
  rintro e w4 ⟨v4, rfl, hv, hb4⟩
  replace HW := rW HW hb4
  replace HX := rA HX hb4
  replace HA1 := rS HA1 hb4
  replace HR1 := rA HR1 hb4
  replace HI1 := rI HI1 hb4
  replace HA2 := rS HA2 hb4
  replace HR2 := rA HR2 hb4
  replace HI3 := rG HI3 hb4
  clear d0 d1 d2 d3 d4 d5 d6 d7 d8 d9 d10 d11 d12
  obtain rfl := SailE.one HE.out hv
  clear hv hb4
  have hzb : Below w4.heap.size w4 ((w4.alloc O.zs).alloc O.zs) := bvia (al _ _) (al _ _)
  have HV : Aside (Below w4.heap.size w4 ((w4.alloc O.zs).alloc O.zs)) := hzb
  have hw4 : w.heap.size < w4.heap.size := HX.out.lt
  have hr1 : w1.heap.size < w4.heap.size := HR1.out.lt
  have hr2 : w2.heap.size < w4.heap.size := HR2.out.lt
  have HZ1 : Aside (RowIs ((w4.alloc O.zs).alloc O.zs) (w4.heap.size) C.zs) := (RowIs.new w4 C.zs 32).below (al _ _)
  have HZ2 : Aside (RowIs ((w4.alloc O.zs).alloc O.zs) (w4.heap.size + 1) C.zs) := by
    have := RowIs.new (w4.alloc O.zs) C.zs 32
    rwa [World.size_alloc] at this
  obtain ⟨rfl, hy1, hl1⟩ := turn_ok HE.out (by omega) (by omega) HS1.out
  have HY1 := asv hy1
  have HL1 := asv hl1
  have HDY : Aside (0 ≤ day ∧ day ≤ 9999) := by show _ ∧ _; omega
  clear hy1 hl1
  obtain ⟨rfl, f, hf1, hf2, hf3⟩ := close_ok HE.out HC.out HS2.out
  have HF1 := asv hf1
  have HF2 := asv hf2
  have HF3 := asv hf3
  clear hf1 hf2 hf3
  clear HS1 HS2
  obtain ⟨d0, d1, d2, d3, d4, d5, d6, d7, d8, d9, d10, d11, d12⟩ := SRow.box HX.out
  replace HW := rW HW hzb
  have HX' := rA HX hzb
  replace HR1 := rA HR1 hzb
  replace HR2 := rA HR2 hzb
  have HZV : Aside (w4.heap.size + 1 + 1 ≤ ((w4.alloc O.zs).alloc O.zs).heap.size) := by show _ ≤ _; simp only [World.size_alloc]; omega
  clear hzb
  have hc := HC.out
  go_upto_region 12 with (fail)
  clear hc
  go_wp2_with fail
  clear d0 d1 d2 d3 d4 d5 d6 d7 d8 d9 d10 d11 d12 HX
  have HX := HX'
  clear HX'
  refine (turnOf_is x a day y1 l1 w _ HW.out HS.out HE.out HDY.out HY1.out HL1.out).mono ?_
  rintro e u1 ⟨b1, v6, rfl, hz1, hO6, hc1⟩
  replace HW := rW HW hc1
  replace HX := rA HX hc1
  replace HR1 := rA HR1 hc1
  replace HR2 := rA HR2 hc1
  replace HZ1 := rA HZ1 hc1
  replace HZ2 := rA HZ2 hc1
  replace HV := rW HV hc1
  obtain ⟨ao6, c6, rfl, -⟩ := OwnJ.at hO6
  have HQ1 : Aside (SailTw w.heap.size (w4.heap.size + 1 + 1) u1 y1 b1) := hz1.mono HZV.out
  have HO6 : Aside (OwnJ u1 (w4.heap.size + 1 + 1) (.slice ao6 l1.length c6) l1) := OwnC.ahead hO6 HZV.out
  clear hz1 hO6 hc1
  go_wp2_with ((with_reducible refine wpList_stO (w4.heap.size) C.zs (C.sail y1 b1) ?_ ?_ ?_ HZ1.out ?_ ?_ ?_); exact Tryz.sizeSail; rfl; rfl; rfl; exact sail_one _ _; intro s1 hr1' hg1; have hsz1 : w4.heap.size ≤ u1.heap.size := HV.out.size; replace HW := gW HW (by omega) hg1 (by omega); replace HX := gA HX hg1 (by omega); replace HR1 := gA HR1 hg1 (by omega); replace HR2 := gA HR2 hg1 (by omega); replace HZ1 : Aside (SRow s1 (w4.heap.size) y1 b1) := hr1'; replace HZ2 := gA HZ2 hg1 (by omega); replace HV := gW HV (by omega) hg1 (by omega); replace HQ1 := tG HQ1 hg1 (by omega) (by omega) (by omega); replace HO6 := oG HO6 hg1 (by omega); obtain ⟨d0, d1, d2, d3, d4, d5, d6, d7, d8, d9, d10, d11, d12⟩ := SRow.box HX.out; clear hr1' hg1 hsz1)
  clear d0 d1 d2 d3 d4 d5 d6 d7 d8 d9 d10 d11 d12
  have HM1 : Aside (w4.heap.size + 1 + 1 ≤ s1.heap.size) := by have := HZ2.out.lt; show _ ≤ _; omega
  refine (closeOf_is x a f y2 w _ HW.out HS.out HE.out HF1.out HF2.out HF3.out).mono ?_
  rintro e u2 ⟨b2, rfl, hz2, hc2⟩
  replace HQ1 := tB HQ1 hc2 (by have := HV.out.size; omega)
  replace HW := rW HW hc2
  replace HX := rA HX hc2
  replace HR1 := rA HR1 hc2
  replace HR2 := rA HR2 hc2
  replace HZ1 := rA HZ1 hc2
  replace HZ2 := rA HZ2 hc2
  replace HV := rW HV hc2
  replace HO6 := oB HO6 hc2
  have HQ2 : Aside (SailTw w.heap.size (w4.heap.size + 1 + 1) u2 y2 b2) := hz2.mono HM1.out
  clear hz2 hc2
  go_wp2_with ((with_reducible refine wpList_stO (w4.heap.size + 1) C.zs (C.sail y2 b2) ?_ ?_ ?_ HZ2.out ?_ ?_ ?_); exact Tryz.sizeSail; rfl; rfl; rfl; exact sail_one _ _; intro s2 hr2' hg2; have hsz2 : w4.heap.size ≤ u2.heap.size := HV.out.size; replace HW := gW HW (by omega) hg2 (by omega); replace HX := gA HX hg2 (by omega); replace HR1 := gA HR1 hg2 (by omega); replace HR2 := gA HR2 hg2 (by omega); replace HZ1 := gA HZ1 hg2 (by omega); replace HZ2 : Aside (SRow s2 (w4.heap.size + 1) y2 b2) := hr2'; replace HV := gW HV (by omega) hg2 (by omega); replace HQ1 := tG HQ1 hg2 (by omega) (by omega) (by omega); replace HO6 := oG HO6 hg2 (by omega); replace HQ2 := tG HQ2 hg2 (by omega) (by omega) (by omega); obtain ⟨d0, d1, d2, d3, d4, d5, d6, d7, d8, d9, d10, d11, d12⟩ := SRow.box HX.out; clear hr2' hg2 hsz2)
  clear d0 d1 d2 d3 d4 d5 d6 d7 d8 d9 d10 d11 d12
  refine (planOf_any x a _ (HS.out.below HW.out) (sail_ok HE.out).2.2.2.1 (sail_ok HE.out).2.2.2.2.1).mono ?_
  rintro e u3 ⟨v8, rfl, hO8, hc3⟩
  replace HQ1 := tB HQ1 hc3 (by have := HV.out.size; omega)
  replace HQ2 := tB HQ2 hc3 (by have := HV.out.size; omega)
  replace HW := rW HW hc3
  replace HX := rA HX hc3
  replace HR1 := rA HR1 hc3
  replace HR2 := rA HR2 hc3
  replace HZ1 := rA HZ1 hc3
  replace HZ2 := rA HZ2 hc3
  replace HV := rW HV hc3
  replace HO6 := oB HO6 hc3
  obtain ⟨ao8, c8, rfl, hI8⟩ := OwnC.at cellsG_len hO8
  have HI8 : Aside (GAt u3 ao8 c8 (P.planL x.bks)) := hI8
  clear hO8 hI8 hc3
  go_wp2_with fail
  refine (voyageBegun_any _).mono ?_
  rintro e wb ⟨rfl, hbb⟩
  replace HQ1 := tB HQ1 hbb (by have := HV.out.size; omega)
  replace HQ2 := tB HQ2 hbb (by have := HV.out.size; omega)
  replace HW := rW HW hbb
  replace HX := rA HX hbb
  replace HR1 := rA HR1 hbb
  replace HR2 := rA HR2 hbb
  replace HZ1 := rA HZ1 hbb
  replace HZ2 := rA HZ2 hbb
  replace HV := rW HV hbb
  replace HO6 := oB HO6 hbb
  replace HI8 := rG HI8 hbb
  clear hbb
  obtain ⟨d0, d1, d2, d3, d4, d5, d6, d7, d8, d9, d10, d11, d12⟩ := SRow.box HR1.out
  obtain ⟨e0, e1, e2, e3, e4, e5, e6, e7, e8, e9, e10, e11, e12⟩ := SRow.box HZ1.out
  go_wp2_with fail
  refine (sailingIs_any 0 y1 y1 a1 b1 _ (HA1.out.below HV.out) (fun _ => ⟨rfl, HQ1.out.at⟩) (fun h => absurd rfl h)).mono ?_
  rintro e wi1 ⟨rfl, hbi1⟩
  replace HQ1 := tB HQ1 hbi1 (by have := HV.out.size; omega)
  replace HQ2 := tB HQ2 hbi1 (by have := HV.out.size; omega)
  replace HW := rW HW hbi1
  replace HX := rA HX hbi1
  replace HR1 := rA HR1 hbi1
  replace HR2 := rA HR2 hbi1
  replace HZ1 := rA HZ1 hbi1
  replace HZ2 := rA HZ2 hbi1
  replace HV := rW HV hbi1
  replace HO6 := oB HO6 hbi1
  replace HI8 := rG HI8 hbi1
  clear d0 d1 d2 d3 d4 d5 d6 d7 d8 d9 d10 d11 d12 e0 e1 e2 e3 e4 e5 e6 e7 e8 e9 e10 e11 e12 hbi1
  have HI6 : Aside (IntsAt wi1 ao6 c6 l1) := own_at cellsI_len HO6.out
  go_wp2_with fail
  refine (sameInts_eq ao1 ao6 c1 c6 l1 _ (SlAt.below RInt.mono HI1.out HV.out) HI6.out).mono ?_
  rintro e wj ⟨rfl, hbj⟩
  clear HI6
  replace HQ1 := tB HQ1 hbj (by have := HV.out.size; omega)
  replace HQ2 := tB HQ2 hbj (by have := HV.out.size; omega)
  replace HW := rW HW hbj
  replace HX := rA HX hbj
  replace HR1 := rA HR1 hbj
  replace HR2 := rA HR2 hbj
  replace HZ1 := rA HZ1 hbj
  replace HZ2 := rA HZ2 hbj
  replace HV := rW HV hbj
  replace HO6 := oB HO6 hbj
  replace HI8 := rG HI8 hbj
  clear hbj
  obtain ⟨d0, d1, d2, d3, d4, d5, d6, d7, d8, d9, d10, d11, d12⟩ := SRow.box HR2.out
  obtain ⟨e0, e1, e2, e3, e4, e5, e6, e7, e8, e9, e10, e11, e12⟩ := SRow.box HZ2.out
  go_wp2_with fail
  refine (sailingIs_any 0 y2 y2 a2 b2 _ (HA2.out.below HV.out) (fun _ => ⟨rfl, HQ2.out.at⟩) (fun h => absurd rfl h)).mono ?_
  rintro e wi2 ⟨rfl, hbi2⟩
  replace HQ1 := tB HQ1 hbi2 (by have := HV.out.size; omega)
  replace HQ2 := tB HQ2 hbi2 (by have := HV.out.size; omega)
  replace HW := rW HW hbi2
  replace HX := rA HX hbi2
  replace HR1 := rA HR1 hbi2
  replace HR2 := rA HR2 hbi2
  replace HZ1 := rA HZ1 hbi2
  replace HZ2 := rA HZ2 hbi2
  replace HV := rW HV hbi2
  replace HO6 := oB HO6 hbi2
  replace HI8 := rG HI8 hbi2
  clear d0 d1 d2 d3 d4 d5 d6 d7 d8 d9 d10 d11 d12 e0 e1 e2 e3 e4 e5 e6 e7 e8 e9 e10 e11 e12 hbi2
  go_wp2_with fail
  refine (sameEdges_any ao3 ao8 c3 c8 (P.planL x.bks) (P.planL x.bks) _ (SlAt.below (RC.mono _) HI3.out HV.out) HI8.out).mono ?_
  rintro e wk ⟨rfl, hbk⟩
  have HWK := rW HW hbk
  clear hbk
  rw [decide_eq_true rfl]
  go_wp2
  go_ret
  exact ⟨rfl, HWK.out⟩


end Go.Proofs.YtlamhfbdeinkkaeGreat.St
