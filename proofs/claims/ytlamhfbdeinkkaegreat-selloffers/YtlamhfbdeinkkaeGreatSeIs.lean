/- Package sell: Offers. -/
import Derived.Test.YtlamhfbdeinkkaeGreatSeHs
namespace Go.Proofs.YtlamhfbdeinkkaeGreat.St
open Go.RowKit Bk
set_option linter.unusedSimpArgs false
set_option linter.unusedVariables false
set_option maxRecDepth 10000

abbrev W.sp2 (w : World) (f t : Int) : World := w.alloc (.cells #[.int .i64 f, .int .i64 t] 34)
set_option maxHeartbeats 8000000 in
theorem sellOffers_any (x : Sail) (a : SailA) (g : Int) (lv : Bool) (f t : Int) (w : World) (hs : SailAt w x a) :
    Calls Tryz.prog 17 #[V.sail x a, .int .i64 g, .bool lv, .agg #[.int .i64 f, .int .i64 t]] w fun e w' => ∃ r v l, e = .returned (.tuple #[v, .int .i64 r]) ∧ OwnJ w' w.heap.size v l ∧ P.OffS x g lv f t r l ∧ Below w.heap.size w w' := by
  have hb0 : Below w.heap.size w (W.sp2 (W.sail w x a) f t) := bvia (sail_below w x a) (by go_grown)
  have HX0 : Aside (SRow (W.sp2 (W.sail w x a) f t) w.heap.size x a) := (RowIs.new w _ _ : SRow (W.sail w x a) w.heap.size x a).below (by go_grown)
  have HP0 : Aside (RowIs (W.sp2 (W.sail w x a) f t) (w.heap.size + 1) #[.int .i64 f, .int .i64 t]) := by
    have := RowIs.new (W.sail w x a) #[.int .i64 f, .int .i64 t] 34
    rwa [World.size_alloc] at this
  have HS : Aside (SailAt w x a) := hs
  clear hs
  obtain ⟨d0, d1, d2, d3, d4, d5, d6, d7, d8, d9, d10, d11, d12⟩ := SRow.box HX0.out
  go_enter Tryz.func17, Tryz.ntmps17
  go_wp2_with fail
  refine (stockCheck_any x a _ (HS.out.below hb0)).mono ?_
  rintro e w1 ⟨q, rfl, hq, hb1⟩
  have HQ : Aside (P.SailE x q) := hq
  have hB1 := bvia hb0 hb1
  have HX1 : Aside (SRow w1 w.heap.size x a) := HX0.out.below hb1
  have HP1 : Aside (RowIs w1 (w.heap.size + 1) #[.int .i64 f, .int .i64 t]) := HP0.out.below hb1
  clear d0 d1 d2 d3 d4 d5 d6 d7 d8 d9 d10 d11 d12 HX0 HP0 hb0 hb1 hq
  cases hz : (q != 0)
  rotate_left
  · have HN : Aside (¬ q = 0) := by show ¬ _; simpa using hz
    go_wp2
    go_ret2
    exact ⟨q, _, [], rfl, OwnC.nil _ _, .inl ⟨q, HQ.out, HN.out, rfl, rfl⟩, hB1⟩
  obtain rfl : q = 0 := by simpa using hz
  clear hz
  by_cases hg1 : g < 1
  · have HG : Aside (P.offE x g f t = 3) := off_range (by simp [P.btw]; omega)
    go_wp2
    go_ret2
    exact ⟨3, _, [], rfl, OwnC.nil _ _, .inr ⟨HQ.out, HG.out.symm, fun _ => rfl, fun h => absurd h (by decide)⟩, hB1⟩
  by_cases hg4 : 4 < g
  · have HG : Aside (P.offE x g f t = 3) := off_range (by simp [P.btw]; omega)
    go_wp2
    go_ret2
    exact ⟨3, _, [], rfl, OwnC.nil _ _, .inr ⟨HQ.out, HG.out.symm, fun _ => rfl, fun h => absurd h (by decide)⟩, hB1⟩
  have HG : Aside (P.btw g 1 4 = true) := by show _ = _; simp [P.btw]; omega
  have d0 : w1.cell? ⟨w.heap.size, 0, none⟩ = some (.int .i64 x.s.legs) := HX1.out.cell 0
  have s0 : w1.cell? ⟨w.heap.size + 1, 0, none⟩ = some (.int .i64 f) := HP1.out.cell 0
  have s1 : w1.cell? ⟨w.heap.size + 1, 1, none⟩ = some (.int .i64 t) := HP1.out.cell 1
  go_wp2_with fail
  refine (Sp.check_any _ _ _ _).mono ?_
  rintro e w2 ⟨rfl, hb2⟩
  have hB2 := bvia hB1 hb2
  have HX2 : Aside (SRow w2 w.heap.size x a) := HX1.out.below hb2
  have HP2 : Aside (RowIs w2 (w.heap.size + 1) #[.int .i64 f, .int .i64 t]) := HP1.out.below hb2
  clear d0 s0 s1 HX1 HP1 hb2 hg1 hg4
  cases hc : (P.chk f t x.s.legs != 0)
  rotate_left
  · have HN : Aside (¬ P.chk f t x.s.legs = 0) := by show ¬ _; simpa using hc
    have HO : Aside (P.offE x g f t = P.chk f t x.s.legs) := off_span HG.out HN.out
    go_wp2
    go_ret2
    exact ⟨_, _, [], rfl, OwnC.nil _ _, .inr ⟨HQ.out, HO.out.symm, fun _ => rfl, fun h => absurd h HN.out⟩, hB2⟩
  have HC : Aside (P.chk f t x.s.legs = 0) := by show _ = _; simpa using hc
  rw [HC.out]
  clear hc
  obtain ⟨d0, d1, d2, d3, d4, d5, d6, d7, d8, d9, d10, d11, d12⟩ := SRow.box HX2.out
  have hbS := sel_below w2 x a
  have HX3 : Aside (SRow (W.sel w2 x a) w2.heap.size x a) := sel_row w2 x a
  have HP3 : Aside (RowIs (W.sel w2 x a) (w.heap.size + 1) #[.int .i64 f, .int .i64 t]) := HP2.out.below hbS
  have hB3 := bvia hB2 hbS
  go_wp2_with fail
  refine (hasLeft_any x a _).mono ?_
  rintro e w4 ⟨rfl, hb4⟩
  have hB4 := bvia hB3 hb4
  have HX4 : Aside (SRow w4 w2.heap.size x a) := HX3.out.below hb4
  have HP4 : Aside (RowIs w4 (w.heap.size + 1) #[.int .i64 f, .int .i64 t]) := HP3.out.below hb4
  clear d0 d1 d2 d3 d4 d5 d6 d7 d8 d9 d10 d11 d12 HX2 HP2 HX3 HP3 hbS hb4 hB3
  by_cases hl : x.lvs ≤ x.day
  · have HO : Aside (P.offE x g f t = 4) := off_left HG.out HC.out hl
    have hld : decide (x.lvs ≤ x.day) = true := by simpa using hl
    rw [hld]
    go_wp2
    go_ret2
    exact ⟨4, _, [], rfl, OwnC.nil _ _, .inr ⟨HQ.out, HO.out.symm, fun _ => rfl, fun h => absurd h (by decide)⟩, hB4⟩
  have HLV : Aside (¬ x.lvs ≤ x.day) := hl
  have hld : decide (x.lvs ≤ x.day) = false := by simpa using hl
  rw [hld]
  clear hl hld
  obtain ⟨d0, d1, d2, d3, d4, d5, d6, d7, d8, d9, d10, d11, d12⟩ := SRow.box HX4.out
  go_wp2_with fail
  refine (isFull_any x a _).mono ?_
  rintro e w5 ⟨rfl, hb5⟩
  have hB5 := bvia hB4 hb5
  have HX5 : Aside (SRow w5 w2.heap.size x a) := HX4.out.below hb5
  have HP5 : Aside (RowIs w5 (w.heap.size + 1) #[.int .i64 f, .int .i64 t]) := HP4.out.below hb5
  clear d0 d1 d2 d3 d4 d5 d6 d7 d8 d9 d10 d11 d12 HX4 HP4 hb5 hB4
  by_cases hf : 16 ≤ x.bks.length
  · have HO : Aside (P.offE x g f t = 2) := off_full HG.out HC.out (by first | exact HLV.out | exact Int.not_le.2 HLV.out) hf
    have hfd : decide (16 ≤ x.bks.length) = true := by simpa using hf
    rw [hfd]
    go_wp2
    go_ret2
    exact ⟨2, _, [], rfl, OwnC.nil _ _, .inr ⟨HQ.out, HO.out.symm, fun _ => rfl, fun h => absurd h (by decide)⟩, hB5⟩
  have hfd : decide (16 ≤ x.bks.length) = false := by simpa using hf
  have HO : Aside (P.offE x g f t = 0) := off_ok HG.out HC.out (by first | exact HLV.out | exact Int.not_le.2 HLV.out) hf
  rw [hfd]
  clear hf hfd
  obtain ⟨d0, d1, d2, d3, d4, d5, d6, d7, d8, d9, d10, d11, d12⟩ := SRow.box HX5.out
  have ds0 : w5.cell? ⟨w.heap.size + 1, 0, none⟩ = some (.int .i64 f) := HP5.out.cell 0
  have ds1 : w5.cell? ⟨w.heap.size + 1, 1, none⟩ = some (.int .i64 t) := HP5.out.cell 1
  obtain ⟨hp5, _, _, _, h165, _⟩ := sail_ok HQ.out
  have HRI : Aside (x.bks.Pairwise (fun a b => a.id < b.id)) := (bksI_rise (pre_zero hp5).2.1).2
  clear hp5
  go_wp2_with fail
  go_region_held3 (fun u => u.cell? ⟨w2.heap.size, 0, none⟩ = some (.int .i64 x.s.legs) ∧ u.cell? ⟨w2.heap.size, 1, none⟩ = some (.int .i64 x.s.souls) ∧ u.cell? ⟨w2.heap.size, 2, none⟩ = some (.slice a.v.cao x.s.cs.length a.v.cc) ∧ u.cell? ⟨w2.heap.size, 3, none⟩ = some (.slice a.v.bao x.s.bs.length a.v.bc) ∧ u.cell? ⟨w2.heap.size, 4, none⟩ = some (.slice a.lo x.L.length a.lc) ∧ u.cell? ⟨w2.heap.size, 5, none⟩ = some (.int .i64 x.al) ∧ u.cell? ⟨w2.heap.size, 6, none⟩ = some (.int .i64 x.th) ∧ u.cell? ⟨w2.heap.size, 7, none⟩ = some (.slice a.bo x.B.length a.bc) ∧ u.cell? ⟨w2.heap.size, 8, none⟩ = some (.int .i64 x.dn) ∧ u.cell? ⟨w2.heap.size, 9, none⟩ = some (.int .i64 x.day) ∧ u.cell? ⟨w2.heap.size, 10, none⟩ = some (.int .i64 x.lvs) ∧ u.cell? ⟨w2.heap.size, 11, none⟩ = some (.slice a.ao x.bks.length a.cap) ∧ u.cell? ⟨w2.heap.size, 12, none⟩ = some (.bool x.cl) ∧ u.cell? ⟨w.heap.size + 1, 0, none⟩ = some (.int .i64 f) ∧ u.cell? ⟨w.heap.size + 1, 1, none⟩ = some (.int .i64 t))
    (first
      | with_reducible exact ⟨e0, e1, e2, e3, e4, e5, e6, e7, e8, e9, e10, e11, e12, es0, es1⟩
      | with_reducible exact ⟨d0, d1, d2, d3, d4, d5, d6, d7, d8, d9, d10, d11, d12, ds0, ds1⟩
      | with_reducible exact ⟨k0, k1, k2, k3, k4, k5, k6, k7, k8, k9, k10, k11, k12, ks0, ks1⟩
      | go_keep)
    (first
      | (go_at_call 62; refine (unused_any x a _ (HS.out.below (by first | exact hB5 | exact bvia hB5 (by go_grown))) (by omega) HRI.out).mono ?_; rintro e w6 ⟨n, rfl, hn6, hb6⟩; have hb56 : Below w5.heap.size w5 w6 := (by first | exact hb6 | exact bvia (dr _) hb6); obtain ⟨e0, e1, e2, e3, e4, e5, e6, e7, e8, e9, e10, e11, e12⟩ := SRow.box (HX5.out.below hb56); have es0 : w6.cell? ⟨w.heap.size + 1, 0, none⟩ = some (.int .i64 f) := (HP5.out.below hb56).cell 0; have es1 : w6.cell? ⟨w.heap.size + 1, 1, none⟩ = some (.int .i64 t) := (HP5.out.below hb56).cell 1)
      | (go_at_call 61; refine (offers_own x a (P.who n g lv f t) none 0 _ (HS.out.below (bvia hB5 (by first | exact hb56 | exact bvia hb56 (by go_grown)))) HQ.out (SlAt.nilOf _)).mono ?_; rintro e w7 ⟨v7, l7, rfl, own7, off7, hb7⟩; have hb57 : Below w5.heap.size w5 w7 := (by first | exact bvia hb56 hb7 | exact bvia hb56 (bvia (dr _) hb7)); obtain ⟨k0, k1, k2, k3, k4, k5, k6, k7, k8, k9, k10, k11, k12⟩ := SRow.box (HX5.out.below hb57); have ks0 : w7.cell? ⟨w.heap.size + 1, 0, none⟩ = some (.int .i64 f) := (HP5.out.below hb57).cell 0; have ks1 : w7.cell? ⟨w.heap.size + 1, 1, none⟩ = some (.int .i64 t) := (HP5.out.below hb57).cell 1))
  all_goals
    have hB7 := bvia hB5 hb57
    have HO7 : Aside (OwnJ w7 w.heap.size v7 l7) := OwnC.ahead own7 (by first | exact Nat.le_trans hB5.size hb56.size | (simp; exact Nat.le_trans hB5.size hb56.size))
    have HN6 : Aside (LeastIs x.bks n) := hn6
    have HF7 : Aside (OffIs x (P.who n g lv f t) x.s.bs.length l7) := off7
    clear d0 d1 d2 d3 d4 d5 d6 d7 d8 d9 d10 d11 d12 ds0 ds1 e0 e1 e2 e3 e4 e5 e6 e7 e8 e9 e10 e11 e12 es0 es1 k0 k1 k2 k3 k4 k5 k6 k7 k8 k9 k10 k11 k12 ks0 ks1 own7 off7 hn6
    go_wp2
    go_ret2
    exact ⟨0, v7, l7, rfl, HO7.out, .inr ⟨HQ.out, HO.out.symm, fun h => absurd rfl h, fun _ => ⟨n, HN6.out, HF7.out⟩⟩, hB7⟩

end Go.Proofs.YtlamhfbdeinkkaeGreat.St
