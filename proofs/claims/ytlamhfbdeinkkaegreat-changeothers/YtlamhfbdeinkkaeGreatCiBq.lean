/- changeBegun. -/
import Derived.Test.YtlamhfbdeinkkaeGreatChQq
namespace Go.Proofs.YtlamhfbdeinkkaeGreat.St
open Go.RowKit Bk
set_option linter.unusedSimpArgs false
set_option linter.unusedVariables false
set_option maxRecDepth 10000

set_option maxHeartbeats 16000000 in
theorem changeBegun_any (w : World) : Calls Tryz.prog 27 #[] w fun e w' => e = .returned (.bool true) ∧ Below w.heap.size w w' := by
  go_enter Tryz.func27, Tryz.ntmps27
  go_wp2_with fail
  refine (cruise_any _).mono ?_
  rintro e w1 ⟨a1, rfl, s1, hb1⟩
  go_wp2_with fail
  refine (sure_C a1 _ s1).mono ?_
  rintro e w2 ⟨a2, rfl, u2, hb2⟩
  have R2 : Aside (RowIs (W.sail w2 T.D1 a2) w2.heap.size (C.sail T.D1 a2)) := RowIs.new w2 _ _
  have S2 : Aside (SailAt (W.sail w2 T.D1 a2) T.D1 a2) := u2.at.below (sail_below w2 T.D1 a2)
  have B2 : Aside (Below w.heap.size w (W.sail w2 T.D1 a2)) := bvia hb1 (bvia hb2 (sail_below w2 T.D1 a2))
  clear hb1 hb2 u2 s1
  go_wp2_with fail
  change Calls Tryz.prog 42 #[] (W.sail w2 T.D1 a2) _
  generalize W.sail w2 T.D1 a2 = v2 at R2 S2 B2 ⊢
  refine (cruise_any _).mono ?_
  rintro e w3 ⟨a3, rfl, s3, hb3⟩
  go_wp2_with fail
  refine (pay_C a3 _ s3).mono ?_
  rintro e w4 ⟨a4, rfl, u4, hb4⟩
  have K4 : Aside (Below v2.heap.size v2 (W.sail w4 T.D2 a4)) := bvia hb3 (bvia hb4 (sail_below w4 T.D2 a4))
  have R4 : Aside (RowIs (W.sail w4 T.D2 a4) w4.heap.size (C.sail T.D2 a4)) := RowIs.new w4 _ _
  have S4 : Aside (SailAt (W.sail w4 T.D2 a4) T.D2 a4) := u4.at.below (sail_below w4 T.D2 a4)
  clear hb3 hb4 u4 s3
  obtain ⟨d0, d1, d2, d3, d4, d5, d6, d7, d8, d9, d10, d11, d12⟩ := SRow.box R4.out
  go_wp2_with fail
  refine (cancel_C a4 _ S4.out).mono ?_
  rintro e w5 ⟨a5, rfl, u5, hb5⟩
  have K5 : Aside (Below (W.sail w4 T.D2 a4).heap.size (W.sail w4 T.D2 a4) (W.sail w5 T.D3 a5)) := bvia hb5 (sail_below w5 T.D3 a5)
  have R5 : Aside (RowIs (W.sail w5 T.D3 a5) w5.heap.size (C.sail T.D3 a5)) := RowIs.new w5 _ _
  have S5 : Aside (SailAt (W.sail w5 T.D3 a5) T.D3 a5) := u5.at.below (sail_below w5 T.D3 a5)
  clear hb5 u5 d0 d1 d2 d3 d4 d5 d6 d7 d8 d9 d10 d11 d12
  go_wp2_with fail
  change Calls Tryz.prog 42 #[] (W.sail w5 T.D3 a5) _
  generalize W.sail w5 T.D3 a5 = v5 at R5 S5 K5 ⊢
  generalize W.sail w4 T.D2 a4 = v4 at R4 S4 K4 K5
  refine (cruise_any _).mono ?_
  rintro e w6 ⟨a6, rfl, s6, hb6⟩
  go_wp2_with fail
  refine (move_C9 a6 _ s6).mono ?_
  rintro e w7 ⟨a7, rfl, hb7⟩
  have K7 : Aside (Below v5.heap.size v5 (W.sail w7 P.zeroS a7)) := bvia hb6 (bvia hb7 (sail_below w7 P.zeroS a7))
  clear hb6 hb7 s6
  go_wp2_with fail
  change Calls Tryz.prog 42 #[] (W.sail w7 P.zeroS a7) _
  generalize W.sail w7 P.zeroS a7 = v7 at K7 ⊢
  refine (cruise_any _).mono ?_
  rintro e w8 ⟨a8, rfl, s8, hb8⟩
  go_wp2_with fail
  refine (move_C7 a8 _ s8).mono ?_
  rintro e w9 ⟨a9, rfl, hb9⟩
  have B9 : Below v7.heap.size v7 w9 := bvia hb8 hb9
  have KV : Aside (Below v5.heap.size v5 w9 ∧ Below v4.heap.size v4 w9 ∧ Below v2.heap.size v2 w9 ∧ Below w.heap.size w w9) :=
    ⟨bvia K7.out B9, bvia K5.out (bvia K7.out B9), bvia K4.out (bvia K5.out (bvia K7.out B9)), bvia B2.out (bvia K4.out (bvia K5.out (bvia K7.out B9)))⟩
  clear hb8 hb9 s8 B9
  have m11 : w9.cell? ⟨w2.heap.size, 11, none⟩ = some (.slice a2.ao 2 a2.cap) := (R2.out.below KV.out.2.2.1).cell 11
  have n11 : w9.cell? ⟨w4.heap.size, 11, none⟩ = some (.slice a4.ao 2 a4.cap) := (R4.out.below KV.out.2.1).cell 11
  have o11 : w9.cell? ⟨w5.heap.size, 11, none⟩ = some (.slice a5.ao 2 a5.cap) := (R5.out.below KV.out.1).cell 11
  obtain ⟨b1, off1, y1, fo1, fc1, hao1, hbw1, hd1, ⟨g10, g11, g12, g13, g14, g15, g16, g17, g18, g19, g110⟩, hfy1⟩ := BksAt.get S2.out.bks KV.out.2.2.1 1 (by decide)
  have hy1 : P.sureB T.Q1 = y1 := by
    have h := congrArg (fun l => l[0]?) hd1
    exact Option.some.inj h
  subst hy1
  obtain ⟨b2, off2, y2, fo2, fc2, hao2, hbw2, hd2, ⟨g20, g21, g22, g23, g24, g25, g26, g27, g28, g29, g210⟩, hfy2⟩ := BksAt.get S4.out.bks KV.out.2.1 0 (by decide)
  have hy2 : P.payB 2 200 T.N1 = y2 := by
    have h := congrArg (fun l => l[0]?) hd2
    exact Option.some.inj h
  subst hy2
  obtain ⟨b3, off3, y3, fo3, fc3, hao3, hbw3, hd3, ⟨g30, g31, g32, g33, g34, g35, g36, g37, g38, g39, g310⟩, hfy3⟩ := BksAt.get S5.out.bks KV.out.1 0 (by decide)
  have hy3 : P.cnB T.D2 (P.payB 2 200 T.N1) = y3 := by
    have h := congrArg (fun l => l[0]?) hd3
    exact Option.some.inj h
  subst hy3
  rw [hao1] at m11
  rw [hao2] at n11
  rw [hao3] at o11
  have q1 : w9.cell? ⟨b1, off1 + 1 * 11 + 2, none⟩ = some (.int .i64 2) := g12
  have q2 : w9.cell? ⟨b2, off2 + 0 * 11 + 10, none⟩ = some (.slice fo2 2 fc2) := by rw [← t_lens.1]; exact g210
  have q3 : w9.cell? ⟨b3, off3 + 0 * 11 + 2, none⟩ = some (.int .i64 3) := g32
  have q4 : w9.cell? ⟨b3, off3 + 0 * 11 + 10, none⟩ = some (.slice fo3 4 fc3) := by rw [← t_lens.2]; exact g310
  clear g10 g11 g12 g13 g14 g15 g16 g17 g18 g19 g110 g20 g21 g22 g23 g24 g25 g26 g27 g28 g29 g210 g30 g31 g32 g33 g34 g35 g36 g37 g38 g39 g310 hd1 hd2 hd3 hfy1 hfy2 hfy3 hbw1 hbw2 hbw3 hao1 hao2 hao3
  clear R2 S2 B2 R4 S4 K4 R5 S5 K5 K7
  have l0 := World.block_lt_of_cell? w9 _ m11
  have l1 := World.block_lt_of_cell? w9 _ n11
  have l2 := World.block_lt_of_cell? w9 _ o11
  have l3 := World.block_lt_of_cell? w9 _ q1
  have l4 := World.block_lt_of_cell? w9 _ q2
  have l5 := World.block_lt_of_cell? w9 _ q3
  go_wp2
  go_ret
  exact ⟨rfl, bvia KV.out.2.2.2 (al _ _)⟩

end Go.Proofs.YtlamhfbdeinkkaeGreat.St
