/- sellBegun. -/
import Derived.Test.YtlamhfbdeinkkaeGreatSeMs
import Derived.Deep.CutRange
namespace Go.Proofs.YtlamhfbdeinkkaeGreat.St
open Go.RowKit Bk
set_option linter.unusedSimpArgs false
set_option linter.unusedVariables false
set_option maxRecDepth 10000

set_option maxHeartbeats 16000000 in
theorem sellBegun_any (w : World) : Calls Tryz.prog 9 #[] w fun e w' => e = .returned (.bool true) ∧ Below w.heap.size w w' := by
  go_enter Tryz.func9, Tryz.ntmps9
  go_wp2_with fail
  refine (named_any _).mono ?_
  rintro e w1 ⟨rfl, hb1⟩
  have HBX : Aside (RowIs (W.bk w1 T.S1 none 0) w1.heap.size (C.bk T.S1 none 0)) := RowIs.new w1 _ _
  have HB1 : Aside (Below w.heap.size w (W.bk w1 T.S1 none 0)) := bvia hb1 (bk_below w1 T.S1 none 0)
  have hw1 : w.heap.size ≤ w1.heap.size := hb1.size
  clear hb1
  go_wp2_with fail
  change Code.wp Tryz.prog _ _ _ (W.bk w1 T.S1 none 0)
  generalize W.bk w1 T.S1 none 0 = wB at HBX HB1 ⊢
  obtain ⟨z0, z1, z2, z3, z4, z5, z6, z7, z8, z9, z10⟩ := HBX.out.bbox
  go_cut [2, 3] from 16 to 21 (fun sp sq wx => ∃ (G : Nat) (ax : SailA), sp = .pointer (some ⟨G, 0, none⟩) ∧ sq = .int .i64 0 ∧ Aside (SRow wx G T.A ax) ∧ Aside (SailAt wx T.A ax) ∧ Aside (Below w.heap.size w wx))
  case first =>
    have hlB : w1.heap.size < wB.heap.size := HBX.out.lt
    go_region_with
      (first
        | (go_at_call 42; refine (cruise_any _).mono ?_; rintro e w2 ⟨a2, rfl, s2, hb2⟩; have bb2 : Below wB.heap.size wB w2 := (by first | exact hb2 | exact bvia (by go_grown) hb2); obtain ⟨y0, y1, y2, y3, y4, y5, y6, y7, y8, y9, y10⟩ := RowIs.bbox (HBX.out.below bb2); have hl2 : w1.heap.size < w2.heap.size := (HBX.out.below bb2).lt;
            (first | (have hT := (RowIs.new _ C.zs 32).below hb2) | (have hT := ((RowIs.new _ C.zs 32).below (dr _)).below hb2) | skip))
        | (go_at_call 11; refine (named_S1 a2 _ (s2.below (by go_grown))).mono ?_; rintro e w3 ⟨a3, rfl, s3, hb3⟩; have bb3 : Below wB.heap.size wB w3 := bvia bb2 (by first | exact hb3 | exact bvia (by go_grown) hb3); obtain ⟨k0, k1, k2, k3, k4, k5, k6, k7, k8, k9, k10⟩ := RowIs.bbox (HBX.out.below bb3); have hl3 : w1.heap.size < w3.heap.size := (HBX.out.below bb3).lt;
            (first | (have hV := hT.below (by first | exact hb3 | exact bvia (by go_grown) hb3); obtain ⟨t0, t1, t2, t3, t4, t5, t6, t7, t8, t9, t10, t11, t12⟩ := zs_cells hV; have tf0 := hV.free 0; have tf1 := hV.free 1; have tf2 := hV.free 2; have tf3 := hV.free 3; have tf4 := hV.free 4; have tf5 := hV.free 5; have tf6 := hV.free 6; have tf7 := hV.free 7; have tf8 := hV.free 8; have tf9 := hV.free 9; have tf10 := hV.free 10; have tf11 := hV.free 11; have tf12 := hV.free 12) | (have hV := (RowIs.new _ C.zs 32).below hb3; obtain ⟨t0, t1, t2, t3, t4, t5, t6, t7, t8, t9, t10, t11, t12⟩ := zs_cells hV; have tf0 := hV.free 0; have tf1 := hV.free 1; have tf2 := hV.free 2; have tf3 := hV.free 3; have tf4 := hV.free 4; have tf5 := hV.free 5; have tf6 := hV.free 6; have tf7 := hV.free 7; have tf8 := hV.free 8; have tf9 := hV.free 9; have tf10 := hV.free 10; have tf11 := hV.free 11; have tf12 := hV.free 12) | (have hV := ((RowIs.new _ C.zs 32).below (dr _)).below hb3; obtain ⟨t0, t1, t2, t3, t4, t5, t6, t7, t8, t9, t10, t11, t12⟩ := zs_cells hV; have tf0 := hV.free 0; have tf1 := hV.free 1; have tf2 := hV.free 2; have tf3 := hV.free 3; have tf4 := hV.free 4; have tf5 := hV.free 5; have tf6 := hV.free 6; have tf7 := hV.free 7; have tf8 := hV.free 8; have tf9 := hV.free 9; have tf10 := hV.free 10; have tf11 := hV.free 11; have tf12 := hV.free 12) | skip)))
    all_goals
      go_wp2_with fail
      go_meet
      first
        | exact ⟨_, a3, rfl, rfl, (putS_row T.A a3 hV rfl).1, (s3.up (Up.gr (putS_row T.A a3 hV rfl).2 (by first | exact hT.lt | (rw [World.size_alloc]; omega) | (simp; done)))).at, below_gr (bvia HB1.out bb3) (bvia HB1.out bb3).size (putS_row T.A a3 hV rfl).2 (by have := HB1.out.size; have := bb2.size; omega)⟩
        | exact ⟨_, a3, rfl, rfl, RowIs.new w3 _ _, (s3.below (sail_below w3 T.A a3)).at, bvia HB1.out (bvia bb3 (sail_below w3 T.A a3))⟩
  case rest =>
  obtain ⟨G1, a1, rfl, rfl, HA1, HS1, HW1⟩ := hcut
  rename World => wA
  clear z0 z1 z2 z3 z4 z5 z6 z7 z8 z9 z10 HBX HB1
  go_wp2_with fail
  refine (cruise_any _).mono ?_
  rintro e v2 ⟨a2, rfl, s2, hb2⟩
  go_wp2_with fail
  refine (named_any _).mono ?_
  rintro e v3 ⟨rfl, hb3⟩
  go_wp2_with fail
  refine (named_N a2 _ (s2.below hb3)).mono ?_
  rintro e v4 ⟨a4, rfl, hb4⟩
  have hk4 : Below wA.heap.size wA (W.sail v4 P.zeroS a4) := bvia hb2 (bvia hb3 (bvia hb4 (sail_below v4 P.zeroS a4)))
  clear hb2 hb3 hb4 s2
  go_wp2_with fail
  refine (promised_any _).mono ?_
  rintro e v5 ⟨rfl, hb5⟩
  have HBX : Aside (RowIs (W.bk v5 T.B1 none 0) v5.heap.size (C.bk T.B1 none 0)) := RowIs.new v5 _ _
  have HK5 : Aside (Below wA.heap.size wA (W.bk v5 T.B1 none 0)) := bvia hk4 (bvia hb5 (bk_below v5 T.B1 none 0))
  clear hk4 hb5
  go_wp2_with fail
  change Code.wp Tryz.prog _ _ _ (W.bk v5 T.B1 none 0)
  generalize W.bk v5 T.B1 none 0 = vB at HBX HK5 ⊢
  obtain ⟨z0, z1, z2, z3, z4, z5, z6, z7, z8, z9, z10⟩ := HBX.out.bbox
  go_cut [7, 8] from 30 to 35 (fun sp sq wx => sq = .int .i64 8 ∧ Aside (Below vB.heap.size vB wx))
  case first =>
    have hlB : v5.heap.size < vB.heap.size := HBX.out.lt
    go_region_with
      (first
        | (go_at_call 42; refine (cruise_any _).mono ?_; rintro e w2 ⟨a2, rfl, s2, hb2⟩; have bb2 : Below vB.heap.size vB w2 := (by first | exact hb2 | exact bvia (by go_grown) hb2); obtain ⟨y0, y1, y2, y3, y4, y5, y6, y7, y8, y9, y10⟩ := RowIs.bbox (HBX.out.below bb2); have hl2 : v5.heap.size < w2.heap.size := (HBX.out.below bb2).lt;
            (first | (have hT := (RowIs.new _ C.zs 32).below hb2) | (have hT := ((RowIs.new _ C.zs 32).below (dr _)).below hb2) | skip))
        | (go_at_call 12; refine (promise_Q a2 _ (s2.below (by go_grown))).mono ?_; rintro e w3 ⟨a3, rfl, hb3⟩; have bb3 : Below vB.heap.size vB w3 := bvia bb2 (by first | exact hb3 | exact bvia (by go_grown) hb3); obtain ⟨k0, k1, k2, k3, k4, k5, k6, k7, k8, k9, k10⟩ := RowIs.bbox (HBX.out.below bb3); have hl3 : v5.heap.size < w3.heap.size := (HBX.out.below bb3).lt;
            (first | (have hV := hT.below (by first | exact hb3 | exact bvia (by go_grown) hb3); obtain ⟨t0, t1, t2, t3, t4, t5, t6, t7, t8, t9, t10, t11, t12⟩ := zs_cells hV; have tf0 := hV.free 0; have tf1 := hV.free 1; have tf2 := hV.free 2; have tf3 := hV.free 3; have tf4 := hV.free 4; have tf5 := hV.free 5; have tf6 := hV.free 6; have tf7 := hV.free 7; have tf8 := hV.free 8; have tf9 := hV.free 9; have tf10 := hV.free 10; have tf11 := hV.free 11; have tf12 := hV.free 12) | (have hV := (RowIs.new _ C.zs 32).below hb3; obtain ⟨t0, t1, t2, t3, t4, t5, t6, t7, t8, t9, t10, t11, t12⟩ := zs_cells hV; have tf0 := hV.free 0; have tf1 := hV.free 1; have tf2 := hV.free 2; have tf3 := hV.free 3; have tf4 := hV.free 4; have tf5 := hV.free 5; have tf6 := hV.free 6; have tf7 := hV.free 7; have tf8 := hV.free 8; have tf9 := hV.free 9; have tf10 := hV.free 10; have tf11 := hV.free 11; have tf12 := hV.free 12) | (have hV := ((RowIs.new _ C.zs 32).below (dr _)).below hb3; obtain ⟨t0, t1, t2, t3, t4, t5, t6, t7, t8, t9, t10, t11, t12⟩ := zs_cells hV; have tf0 := hV.free 0; have tf1 := hV.free 1; have tf2 := hV.free 2; have tf3 := hV.free 3; have tf4 := hV.free 4; have tf5 := hV.free 5; have tf6 := hV.free 6; have tf7 := hV.free 7; have tf8 := hV.free 8; have tf9 := hV.free 9; have tf10 := hV.free 10; have tf11 := hV.free 11; have tf12 := hV.free 12) | skip)))
    all_goals
      go_wp2_with fail
      go_meet
      first
        | exact ⟨rfl, below_gr bb3 bb3.size (putS_row P.zeroS a3 hV rfl).2 (by have := bb2.size; omega)⟩
        | exact ⟨rfl, bvia bb3 (sail_below w3 P.zeroS a3)⟩
  case rest =>
  obtain ⟨rfl, HW7⟩ := hcut
  have HK7 : Aside (Below wA.heap.size wA wc) := bvia HK5.out HW7.out
  clear z0 z1 z2 z3 z4 z5 z6 z7 z8 z9 z10 HBX HK5 HW7
  go_wp2_with fail
  refine (cruise_any _).mono ?_
  rintro e u2 ⟨a6, rfl, s6, hb6⟩
  go_wp2_with fail
  refine (offers_C a6 _ s6).mono ?_
  rintro e u3 ⟨ao, cap, rfl, hl, hb7⟩
  have HK8 : Aside (Below wA.heap.size wA u3) := bvia HK7.out (bvia hb6 hb7)
  have HL : Aside (IntsAt u3 ao cap [0, 1, 2]) := hl
  have d11 : u3.cell? ⟨G1, 11, none⟩ = some (.slice a1.ao 3 a1.cap) := (HA1.out.below HK8.out).cell 11
  obtain ⟨b, off, y, fo, fc, hao, hbw, hd, ⟨y0, y1, y2, y3, y4, y5, y6, y7, y8, y9, y10⟩, hfy⟩ := BksAt.get HS1.out.bks HK8.out 0 (by rw [t_A]; decide)
  have hy : y = ⟨3, 1, 2, 1, false, 1, 0, 0, 1, 0, [(2, 1, 225)]⟩ := by
    rw [t_A] at hd
    simp only [List.drop_zero, List.cons.injEq] at hd
    exact hd.1.symm
  subst hy
  rw [hao] at d11
  obtain ⟨b2, o2, ex, ey, ez, hfo, hb2, hd2, e0, e1, e2⟩ := Fo.EntsAt.get hfy (Below.refl _ _) 0 (by decide)
  have hez : ez = 225 := by
    simp only [List.drop_zero, List.cons.injEq, Prod.mk.injEq] at hd2
    exact hd2.1.2.2.symm
  subst hez
  subst hfo
  have HW8 : Aside (Below w.heap.size w u3) := bvia HW1.out HK8.out
  clear hb6 hb7 s6 hl hao hd hd2 hfy HA1 HS1 HK7
  go_wp2_with fail
  refine (Ma.sameInts_any _ _ _ _ [0, 1, 2] [0, 1, 2] _ (SlAt.below RInt.mono HL.out (by go_grown)) (Bk.ints_at u3 0 1 2)).mono ?_
  rintro e u4 ⟨rfl, hb8⟩
  have hW9 := bvia HW8.out (bvia (al _ _) hb8)
  go_wp2
  go_ret
  exact ⟨rfl, hW9⟩

end Go.Proofs.YtlamhfbdeinkkaeGreat.St
