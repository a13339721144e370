/- Package voyage: what comes of an option that is late. -/
import Derived.Test.YtlamhfbdeinkkaeGreatChDt
import Derived.Test.YtlamhfbdeinkkaeGreatLtAt
import Derived.Test.YtlamhfbdeinkkaeGreatTwAt
import Derived.Deep.CutRange
namespace Go.Proofs.YtlamhfbdeinkkaeGreat.St
open Go.RowKit Bk
set_option linter.unusedSimpArgs false
set_option linter.unusedVariables false
set_option maxRecDepth 10000

theorem drop_ch {x : Sail} {b : Bkg} {k : Nat} {r : Int} {y : Sail} (hE : P.SailE x 0) (hk : x.bks[k]? = some b) (hst : b.state ≠ 3) (h : P.Chg x b.id (P.cnT x) r y) : (¬ P.cnE x b = 0 ∧ r = P.cnE x b) ∨ (P.cnE x b = 0 ∧ r = 0 ∧ y = P.setB x (x.bks.set k (P.cnB x b))) := by
  have hr := (bksI_rise (pre_zero (sail_ok hE).1).2.1).2
  have hlive : P.LiveIs x.bks b.id k := .inl ⟨k, b, rfl, hk, rfl, hst⟩
  rcases cn_ch h with ⟨q, g1, g2, _⟩ | ⟨_, ⟨g1, _⟩ | ⟨k', b2, g1, g2, e, b', ⟨t1, t2⟩, g4⟩⟩
  · exact absurd (SailE.one g1 hE) g2
  · have := LiveIs.one hr g1 hlive
    omega
  · have hkk := LiveIs.one hr g1 hlive
    obtain rfl : k' = k := by omega
    rw [hk] at g2
    obtain rfl := Option.some.inj g2
    rcases g4 with ⟨u1, u2, _⟩ | ⟨u1, u2, u3⟩
    · exact .inl ⟨by rw [← t1]; exact u1, by rw [u2, t1]⟩
    · exact .inr ⟨by rw [← t1]; exact u1, u2, by rw [u3, t2 u1]⟩

set_option maxHeartbeats 16000000 in
theorem dropped_any (x : Sail) (a : SailA) (b : Bkg) (fo : Option Addr) (fc : Nat) (w : World) (hs : SailAt w x a) (hE : P.SailE x 0) (hm : b ∈ x.bks) (h1 : b.state = 1) :
    Calls Tryz.prog 139 #[V.sail x a, V.bk b fo fc] w fun e w' => ∃ fo' fc', e = .returned (V.bk (P.dropB x b) fo' fc') ∧ ((fo' = fo ∧ fc' = fc ∧ (P.dropB x b).fol = b.fol) ∨ (Fo.EntsAt w' fo' fc' (P.dropB x b).fol ∧ ∀ b1 o1, fo' = some ⟨b1, o1, none⟩ → 0 < (P.dropB x b).fol.length → w.heap.size ≤ b1 ∧ b1 < w'.heap.size)) ∧ Below w.heap.size w w' := by
  obtain ⟨k, hk, hk0⟩ := List.getElem_of_mem hm
  have hget : x.bks[k]? = some b := by rw [List.getElem?_eq_getElem hk, hk0]
  have HG : Aside (x.bks[k]? = some b) := hget
  have HE : Aside (P.SailE x 0) := hE
  have HST : Aside (b.state ≠ 3) := by show b.state ≠ 3; omega
  have HS : Aside (SailAt w x a) := hs
  have hb0 : Below w.heap.size w (((w.alloc (.cells (C.sail x a) 116)).alloc (.cells (C.bk b fo fc) 37)).alloc O.bk0) := bvia (al _ _) (bvia (al _ _) (al _ _))
  have HX0 : Aside (SRow (((w.alloc (.cells (C.sail x a) 116)).alloc (.cells (C.bk b fo fc) 37)).alloc O.bk0) w.heap.size x a) := ((RowIs.new w (C.sail x a) 116).below (al _ _)).below (al _ _)
  have HY0 : Aside (RowIs (((w.alloc (.cells (C.sail x a) 116)).alloc (.cells (C.bk b fo fc) 37)).alloc O.bk0) (w.heap.size + 1) (C.bk b fo fc)) := by
    have := (RowIs.new (w.alloc (.cells (C.sail x a) 116)) (C.bk b fo fc) 37).below (al _ O.bk0)
    rwa [World.size_alloc] at this
  have HZ0 : Aside (RowIs (((w.alloc (.cells (C.sail x a) 116)).alloc (.cells (C.bk b fo fc) 37)).alloc O.bk0) (w.heap.size + 1 + 1) C.bk0) := by
    have := RowIs.new ((w.alloc (.cells (C.sail x a) 116)).alloc (.cells (C.bk b fo fc) 37)) C.bk0 37
    rwa [World.size_alloc, World.size_alloc] at this
  have hz0 : (((w.alloc (.cells (C.sail x a) 116)).alloc (.cells (C.bk b fo fc) 37)).alloc O.bk0).heap.size = w.heap.size + 1 + 1 + 1 := by simp
  obtain ⟨d0, d1, d2, d3, d4, d5, d6, d7, d8, d9, d10, d11, d12⟩ := SRow.box HX0.out
  obtain ⟨z0, z1, z2, z3, z4, z5, z6, z7, z8, z9, z10⟩ := HY0.out.bbox
  clear hs hm h1 hE hget hk0
  go_enter Tryz.func139, Tryz.ntmps139
  go_wp2_with fail
  refine (cancel_any x a b.id _ (HS.out.below hb0)).mono ?_
  rintro e w1 ⟨r, y, a1, rfl, hC, hU, hb1⟩
  rw [hz0] at hU
  have hs1 := sail_below w1 y a1
  have hb2 := bvia hb1 hs1
  have hB := bvia hb0 hb2
  have HY : Aside (RowIs (W.sail w1 y a1) (w.heap.size + 1) (C.bk b fo fc)) := HY0.out.below hb2
  have HZ : Aside (RowIs (W.sail w1 y a1) (w.heap.size + 1 + 1) C.bk0) := HZ0.out.below hb2
  have HR : Aside (SRow (W.sail w1 y a1) w1.heap.size y a1) := RowIs.new w1 _ _
  have HU : Aside (SailUp (w.heap.size + 1 + 1 + 1) (W.sail w1 y a1) y a1) := hU.below hs1
  have HB : Aside (Below w.heap.size w (W.sail w1 y a1)) := hB
  have hd := drop_ch HE.out HG.out HST.out hC
  clear d0 d1 d2 d3 d4 d5 d6 d7 d8 d9 d10 d11 d12 z0 z1 z2 z3 z4 z5 z6 z7 z8 z9 z10 HX0 HY0 HZ0 hb0 hb1 hb2 hs1 hB hC hU hz0
  rcases hd with ⟨hne, rfl⟩ | ⟨hz, rfl, hy⟩
  · have HD : Aside (P.dropB x b = P.goneB b b.fol) := by show _ = _; rw [P.dropB, if_neg hne]
    have hc : (P.cnE x b != 0) = true := by simpa using hne
    obtain ⟨z0, z1, z2, z3, z4, z5, z6, z7, z8, z9, z10⟩ := HY.out.bbox
    have f2 := HY.out.free 2
    have f9 := HY.out.free 9
    have HZ2 : Aside (RowIs (((W.sail w1 y a1).setCell ⟨w.heap.size + 1, 2, none⟩ (.int .i64 3)).setCell ⟨w.heap.size + 1, 9, none⟩ (.int .i64 0)) (w.heap.size + 1 + 1) C.bk0) := (HZ.out.gr (grown_st _ _ 2 _) (by simp)).gr (grown_st _ _ 9 _) (by simp)
    have HB2 : Aside (Below w.heap.size w (((W.sail w1 y a1).setCell ⟨w.heap.size + 1, 2, none⟩ (.int .i64 3)).setCell ⟨w.heap.size + 1, 9, none⟩ (.int .i64 0))) := by
      have h1 := below_gr HB.out HB.out.size (grown_st _ (w.heap.size + 1) 2 (.int .i64 3)) (by omega)
      exact below_gr h1 h1.size (grown_st _ (w.heap.size + 1) 9 (.int .i64 0)) (by omega)
    clear hne
    go_wp2_with ((with_reducible refine wpList_stO (w.heap.size + 1 + 1) C.bk0 (C.bk (P.goneB b b.fol) fo fc) ?_ ?_ ?_ HZ2.out ?_ ?_ ?_); exact Tryz.sizeBg; rfl; rfl; rfl; exact all_one rfl; intro w9 hr9 hg9)
    exact bodyPost_ret (res1 rfl hr9 _ rfl Tryz.underlying37 rfl Tryz.sizeBg) rfl ⟨fo, fc, by rw [HD.out], .inl ⟨rfl, rfl, by rw [HD.out]; rfl⟩, below_gr HB2.out HB2.out.size hg9 (by omega)⟩
  · have HD : Aside (P.dropB x b = P.cnB x b) := by show _ = _; rw [P.dropB, if_pos hz]
    have hyl : y.bks.length = x.bks.length := by rw [hy]; exact List.length_set
    have hyk : y.bks[k]? = some (P.cnB x b) := by rw [hy]; exact List.getElem?_set_self hk
    have HYR : Aside (y.bks.Pairwise (fun a b => a.id < b.id)) := by
      have h2 : P.SailE y 0 := by rw [hy]; exact cn_right HE.out HG.out ⟨hz.symm, fun _ => rfl⟩
      exact (bksI_rise (pre_zero (sail_ok h2).1).2.1).2
    have HYK : Aside (y.bks[k]? = some (P.cnB x b)) := hyk
    have hky : k < y.bks.length := by omega
    have hky2 : (k : Int) < y.bks.length := by omega
    generalize hcb : P.cnB x b = g at *
    have hgid : g.id = b.id := by rw [← hcb]; rfl
    have HGI : Aside (g.id = b.id) := hgid
    clear hy hyl hyk hz hk hgid
    go_upto_region 5 with (fail)
    change Code.wp Tryz.prog _ _ _ (W.sail w1 y a1)
    have hw1 : w1.heap.size < (W.sail w1 y a1).heap.size := HR.out.lt
    generalize W.sail w1 y a1 = wB at HY HZ HR HU HB hw1 ⊢
    obtain ⟨bb, oo, g2, fo', fc', hao, hbw, hd, ⟨q0, q1, q2, q3, q4, q5, q6, q7, q8, q9, q10⟩, hfe⟩ := BksAt.get HU.out.at.bks (Below.refl _ _) k hky
    obtain rfl : g = g2 := by
      have h0 := congrArg (fun l => l[0]?) hd
      simp only [List.getElem?_drop, Nat.add_zero, List.getElem?_cons_zero] at h0
      rw [HYK.out] at h0
      exact Option.some.inj h0
    have HEN : Aside (∀ U, Up (w.heap.size + 1 + 1 + 1) wB U → Fo.EntsAt U fo' fc' g.fol) := HU.out.ents HYK.out hao q10
    have HBK : Aside (BksAt wB (some ⟨bb, oo, none⟩) a1.cap y.bks) := by rw [← hao]; exact HU.out.at.bks
    have d11 : wB.cell? ⟨w1.heap.size, 11, none⟩ = some (.slice (some ⟨bb, oo, none⟩) y.bks.length a1.cap) := by rw [← hao]; exact HR.out.cell 11
    have z0 : wB.cell? ⟨w.heap.size + 1, 0, none⟩ = some (.int .i64 b.id) := HY.out.cell 0
    clear hd hbw hfe hao
    refine wp_region_before (L := 9) (S := fun u : World => u.cell? ⟨w1.heap.size, 11, none⟩ = some (.slice (some ⟨bb, oo, none⟩) y.bks.length a1.cap) ∧ u.cell? ⟨w.heap.size + 1, 0, none⟩ = some (.int .i64 b.id) ∧ u.cell? ⟨bb, oo + k * 11, none⟩ = some (.int .i64 g.id) ∧ u.cell? ⟨bb, oo + k * 11 + 1, none⟩ = some (.int .i64 g.kind) ∧ u.cell? ⟨bb, oo + k * 11 + 2, none⟩ = some (.int .i64 g.state) ∧ u.cell? ⟨bb, oo + k * 11 + 3, none⟩ = some (.int .i64 g.guests) ∧ u.cell? ⟨bb, oo + k * 11 + 4, none⟩ = some (.bool g.level) ∧ u.cell? ⟨bb, oo + k * 11 + 5, none⟩ = some (.int .i64 g.cabin) ∧ u.cell? ⟨bb, oo + k * 11 + 6, none⟩ = some (.int .i64 g.cat) ∧ u.cell? ⟨bb, oo + k * 11 + 7, none⟩ = some (.int .i64 g.frm) ∧ u.cell? ⟨bb, oo + k * 11 + 8, none⟩ = some (.int .i64 g.to) ∧ u.cell? ⟨bb, oo + k * 11 + 9, none⟩ = some (.int .i64 g.til) ∧ u.cell? ⟨bb, oo + k * 11 + 10, none⟩ = some (.slice fo' g.fol.length fc')) (by kernel_rfl) (fun hset => ?_)
    have hS : (fun u : World => u.cell? ⟨w1.heap.size, 11, none⟩ = some (.slice (some ⟨bb, oo, none⟩) y.bks.length a1.cap) ∧ u.cell? ⟨w.heap.size + 1, 0, none⟩ = some (.int .i64 b.id) ∧ u.cell? ⟨bb, oo + k * 11, none⟩ = some (.int .i64 g.id) ∧ u.cell? ⟨bb, oo + k * 11 + 1, none⟩ = some (.int .i64 g.kind) ∧ u.cell? ⟨bb, oo + k * 11 + 2, none⟩ = some (.int .i64 g.state) ∧ u.cell? ⟨bb, oo + k * 11 + 3, none⟩ = some (.int .i64 g.guests) ∧ u.cell? ⟨bb, oo + k * 11 + 4, none⟩ = some (.bool g.level) ∧ u.cell? ⟨bb, oo + k * 11 + 5, none⟩ = some (.int .i64 g.cabin) ∧ u.cell? ⟨bb, oo + k * 11 + 6, none⟩ = some (.int .i64 g.cat) ∧ u.cell? ⟨bb, oo + k * 11 + 7, none⟩ = some (.int .i64 g.frm) ∧ u.cell? ⟨bb, oo + k * 11 + 8, none⟩ = some (.int .i64 g.to) ∧ u.cell? ⟨bb, oo + k * 11 + 9, none⟩ = some (.int .i64 g.til) ∧ u.cell? ⟨bb, oo + k * 11 + 10, none⟩ = some (.slice fo' g.fol.length fc')) { wB with drawn := wB.drawn + 1 } := ⟨d11, z0, q0, q1, q2, q3, q4, q5, q6, q7, q8, q9, q10⟩
    refine wpAnyB_put0 (i := 0) (d := (some 20)) (v := ?_) hset rfl rfl (by kernel_rfl) (by kernel_rfl) (by kernel_rfl) (by decide) (fun _ _ _ h => h) (Or.inl ⟨by rfl, ?_⟩) (fun _ => hS) (fun hset => ?_)
    rotate_left
    · (intro w; go_simp; try with_reducible rfl)
    simp only [Act.put, List.setIfInBounds_toArray, List.set_cons_zero, List.set_cons_succ, List.getElem_toArray, List.getElem_cons_succ, List.getElem_cons_zero]
    refine wpAnyB_put (i := 1) (n := 40) (d := (some 21)) (v := ?_) hset rfl rfl (by kernel_rfl) (by kernel_rfl) (by kernel_rfl) (by kernel_rfl) (by decide) (fun _ _ _ h => h) (Or.inl ⟨by rfl, ?_⟩) hS (fun hset => ?_)
    rotate_left
    · (intro w hSw; (try dsimp only at hSw); go_simp; try with_reducible rfl)
    simp only [Act.put, List.setIfInBounds_toArray, List.set_cons_zero, List.set_cons_succ, List.getElem_toArray, List.getElem_cons_succ, List.getElem_cons_zero]
    refine wpAnyB_put0 (i := 2) (d := (some 22)) (v := ?_) hset rfl rfl (by kernel_rfl) (by kernel_rfl) (by kernel_rfl) (by decide) (fun _ _ _ h => h) (Or.inl ⟨by rfl, ?_⟩) (fun _ => hS) (fun hset => ?_)
    rotate_left
    · (intro w; go_simp; try with_reducible rfl)
    simp only [Act.put, List.setIfInBounds_toArray, List.set_cons_zero, List.set_cons_succ, List.getElem_toArray, List.getElem_cons_succ, List.getElem_cons_zero]
    refine wpAnyB_put (i := 3) (n := 40) (d := (some 23)) (v := ?_) hset rfl rfl (by kernel_rfl) (by kernel_rfl) (by kernel_rfl) (by kernel_rfl) (by decide) (fun _ _ _ h => h) (Or.inl ⟨by rfl, ?_⟩) hS (fun hset => ?_)
    rotate_left
    · (intro w hSw; (try dsimp only at hSw); go_simp; try with_reducible rfl)
    simp only [Act.put, List.setIfInBounds_toArray, List.set_cons_zero, List.set_cons_succ, List.getElem_toArray, List.getElem_cons_succ, List.getElem_cons_zero]
    refine wpAnyB_put0 (i := 4) (d := (some 24)) (v := ?_) hset rfl rfl (by kernel_rfl) (by kernel_rfl) (by kernel_rfl) (by decide) (fun _ _ _ h => h) (Or.inl ⟨by rfl, ?_⟩) (fun _ => hS) (fun hset => ?_)
    rotate_left
    · (intro w; go_simp; try with_reducible rfl)
    simp only [Act.put, List.setIfInBounds_toArray, List.set_cons_zero, List.set_cons_succ, List.getElem_toArray, List.getElem_cons_succ, List.getElem_cons_zero]
    refine wpAnyB_put (i := 5) (n := 40) (d := (some 25)) (v := ?_) hset rfl rfl (by kernel_rfl) (by kernel_rfl) (by kernel_rfl) (by kernel_rfl) (by decide) (fun _ _ _ h => h) (Or.inl ⟨by rfl, ?_⟩) hS (fun hset => ?_)
    rotate_left
    · (intro w hSw; (try dsimp only at hSw); go_simp; try with_reducible rfl)
    simp only [Act.put, List.setIfInBounds_toArray, List.set_cons_zero, List.set_cons_succ, List.getElem_toArray, List.getElem_cons_succ, List.getElem_cons_zero]
    refine wpAnyB_steps (rs := [6]) (by kernel_rfl) (by simp) ?_
    refine StepsB.ahead rfl hset (by kernel_rfl) (fun hset K hK => ?_) StepsB.nil
    simp only [List.getElem_toArray, List.getElem_cons_succ, List.getElem_cons_zero]
    go_simp
    refine (at_any (some ⟨bb, oo, none⟩) a1.cap y.bks b.id _ (SlAt.below RBk.mono HBK.out (dr _))).mono ?_
    rintro e w5 ⟨n, rfl, hn, hb5'⟩
    obtain rfl := PlaceIs.at HYR.out hn HYK.out HGI.out
    have hb5 : Below wB.heap.size wB w5 := bvia (dr _) hb5'
    refine hK.out _ _ ?_ (fun hS => ?_)
    · exact ⟨cellIn hb5 d11, cellIn hb5 z0, cellIn hb5 q0, cellIn hb5 q1, cellIn hb5 q2, cellIn hb5 q3, cellIn hb5 q4, cellIn hb5 q5, cellIn hb5 q6, cellIn hb5 q7, cellIn hb5 q8, cellIn hb5 q9, cellIn hb5 q10⟩
    clear hK K
    try simp only [Act.put, List.setIfInBounds_toArray, List.set_cons_zero, List.set_cons_succ, List.getElem_toArray, List.getElem_cons_succ, List.getElem_cons_zero]
    refine wpAnyB_put0 (i := 7) (d := (some 27)) (v := ?_) hset rfl rfl (by kernel_rfl) (by kernel_rfl) (by kernel_rfl) (by decide) (fun _ _ _ h => h) (Or.inl ⟨by rfl, ?_⟩) (fun _ => hS) (fun hset => ?_)
    rotate_left
    · (intro w; go_simp; try with_reducible rfl)
    simp only [Act.put, List.setIfInBounds_toArray, List.set_cons_zero, List.set_cons_succ, List.getElem_toArray, List.getElem_cons_succ, List.getElem_cons_zero]
    refine wpAnyB_put (i := 8) (n := 40) (d := (some 28)) (v := ?_) hset rfl rfl (by kernel_rfl) (by kernel_rfl) (by kernel_rfl) (by kernel_rfl) (by decide) (fun _ _ _ h => h) (Or.inl ⟨by rfl, ?_⟩) hS (fun hset => ?_)
    rotate_left
    · (intro w hSw; (try dsimp only at hSw); go_simp; try with_reducible rfl)
    simp only [Act.put, List.setIfInBounds_toArray, List.set_cons_zero, List.set_cons_succ, List.getElem_toArray, List.getElem_cons_succ, List.getElem_cons_zero]
    refine wpAnyB_steps (rs := [9]) (by kernel_rfl) (by simp) ?_
    refine StepsB.behind rfl hset (by kernel_rfl) (by kernel_rfl) (fun hset K hK => ?_) StepsB.nil
    refine step_of' (by rfl) (wp_stC 37 _ _ (by rfl) (w.heap.size + 1 + 1) C.bk0 (C.bk g fo' fc') Tryz.sizeBg (by rfl) (by rfl) (HZ.out.below hb5) rfl (all_one rfl) ?_)
    intro w9 hr9 gr9
    refine hK.out _ _ ?_
    clear hK K
    try simp only [Act.put, List.setIfInBounds_toArray, List.set_cons_zero, List.set_cons_succ, List.getElem_toArray, List.getElem_cons_succ, List.getElem_cons_zero]
    all_goals refine wpAnyB_done (by kernel_rfl) ?_ _
    have HB5 : Aside (Below w.heap.size w w5) := bvia HB.out hb5
    have HN5 : Aside (∀ U, Up (w.heap.size + 1 + 1 + 1) w5 U → Fo.EntsAt U fo' fc' g.fol) := fun U hU => HEN.out U ((Up.below hb5).trans hU)
    have HR9 : Aside (RowIs w9 (w.heap.size + 1 + 1) (C.bk g fo' fc')) := hr9
    have HG9 : Aside (w5.grownBy w9 (some (w.heap.size + 1 + 1))) := gr9
    clear hr9 gr9 hn hb5 hb5' hset hS d11 z0 q0 q1 q2 q3 q4 q5 q6 q7 q8 q9 q10 HU HR HBK HEN HY HZ
    go_wp2
    exact bodyPost_ret (res1 rfl HR9.out _ rfl Tryz.underlying37 rfl Tryz.sizeBg) rfl ⟨fo', fc', by rw [HD.out], .inr ⟨by rw [HD.out]; exact HN5.out _ (Up.gr HG9.out (by omega)), fun b1 o1 e1 hl => by rw [HD.out] at hl; have h1 := ents_low HN5.out hl e1; have h2 := ents_lt (HN5.out _ ⟨Nat.le_refl _, fun _ _ _ => rfl⟩) hl e1; have h3 := HG9.out.size; omega⟩, below_gr HB5.out HB5.out.size HG9.out (by omega)⟩

end Go.Proofs.YtlamhfbdeinkkaeGreat.St
