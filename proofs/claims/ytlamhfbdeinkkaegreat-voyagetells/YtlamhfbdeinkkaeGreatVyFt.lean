/- Package voyage: turn, Turn. -/
import Derived.Test.YtlamhfbdeinkkaeGreatVyEt
namespace Go.Proofs.YtlamhfbdeinkkaeGreat.St
open Go.RowKit Bk
set_option linter.unusedSimpArgs false
set_option linter.unusedVariables false
set_option maxRecDepth 10000

theorem res3 {fn : Func} {p q r : Tmp} {ty : TypeId} (h : fn.results = #[.cell p ty, .tmp q, .tmp r]) {tmps : Array Value} {w : World} {g : Nat} {cs : Array Value} {v u : Value} (hb : RowIs w g cs) (d : TypeDesc) (hp : tmps.getD p undef = .pointer (some ⟨g, 0, none⟩)) (hq : tmps.getD q undef = v) (hr : tmps.getD r undef = u)
    (hu : Tryz.prog.underlying ty = some d) (hd : rowB d = true) (hi : (Tryz.prog.info? ty).map (·.size) = some cs.size) : (results fn tmps).run Tryz.prog w = .ok (.tuple #[.agg cs, v, u]) w := by
  obtain ⟨t, hg⟩ := hb
  have hp' : tmps[p]?.getD undef = .pointer (some ⟨g, 0, none⟩) := by simpa using hp
  have hq' : tmps[q]?.getD undef = v := by simpa using hq
  have hr' : tmps[r]?.getD undef = u := by simpa using hr
  simp [results, h, hp', hq', hr', asAddr, run_loadVar_row w g t ty cs (0, 0) d hg hu (by cases d <;> first | rfl | exact hd) hi]
theorem turn1_calls : ∀ (args : Array Value) (wx : World), (callFunc 138 args).run Tryz.prog wx = .ok (.enter 138 args) wx := enters_of Tryz.func138 (by kernel_rfl) rfl

set_option maxHeartbeats 16000000 in
theorem turn_any (x : Sail) (a : SailA) (day : Int) (w : World) (hs : SailAt w x a) (hE : P.SailE x 0) (hd : 0 ≤ day ∧ day ≤ 9999) :
    Calls Tryz.prog 86 #[V.sail x a, .int .i64 day] w fun e w' => ∃ v a', e = .returned (.tuple #[V.sail (P.turnS (P.onDay x day)) a', v, .int .i64 0]) ∧ SailUp w.heap.size w' (P.turnS (P.onDay x day)) a' ∧ OwnJ w' w.heap.size v (P.lateI day x.bks) ∧ Below w.heap.size w w' := by
  have HE : Aside (P.SailE x 0) := hE
  have HS : Aside (SailAt w x a) := hs
  have HDY : Aside (0 ≤ day ∧ day ≤ 9999) := hd
  have hb4 : Below w.heap.size w ((((w.alloc (.cells (C.sail (P.onDay x day) a) 116)).alloc (.cells #[.int .i64 day] 3)).alloc O.zs).alloc (.cells #[.slice none 0 0] 47)) := bvia (al _ _) (bvia (al _ _) (bvia (al _ _) (al _ _)))
  have hz4 : ((((w.alloc (.cells (C.sail (P.onDay x day) a) 116)).alloc (.cells #[.int .i64 day] 3)).alloc O.zs).alloc (.cells #[.slice none 0 0] 47)).heap.size = w.heap.size + 1 + 1 + 1 + 1 := by simp
  have hX3 : SRow (((w.alloc (.cells (C.sail x a) 116)).alloc (.cells #[.int .i64 day] 3)).alloc O.zs) w.heap.size x a := ((RowIs.new w (C.sail x a) 116).below (al _ _)).below (al _ _)
  have hD3 : RowIs (((w.alloc (.cells (C.sail x a) 116)).alloc (.cells #[.int .i64 day] 3)).alloc O.zs) (w.heap.size + 1) #[.int .i64 day] := by
    have := (RowIs.new (w.alloc (.cells (C.sail x a) 116)) #[.int .i64 day] 3).below (al _ O.zs)
    rwa [World.size_alloc] at this
  have HX : Aside (SRow ((((w.alloc (.cells (C.sail (P.onDay x day) a) 116)).alloc (.cells #[.int .i64 day] 3)).alloc O.zs).alloc (.cells #[.slice none 0 0] 47)) w.heap.size (P.onDay x day) a) := (((RowIs.new w (C.sail (P.onDay x day) a) 116).below (al _ _)).below (al _ _)).below (al _ _)
  have HD : Aside (RowIs ((((w.alloc (.cells (C.sail (P.onDay x day) a) 116)).alloc (.cells #[.int .i64 day] 3)).alloc O.zs).alloc (.cells #[.slice none 0 0] 47)) (w.heap.size + 1) #[.int .i64 day]) := by
    have := ((RowIs.new (w.alloc (.cells (C.sail (P.onDay x day) a) 116)) #[.int .i64 day] 3).below (al _ O.zs)).below (al _ (.cells #[.slice none 0 0] 47))
    rwa [World.size_alloc] at this
  have HZ : Aside (RowIs ((((w.alloc (.cells (C.sail (P.onDay x day) a) 116)).alloc (.cells #[.int .i64 day] 3)).alloc O.zs).alloc (.cells #[.slice none 0 0] 47)) (w.heap.size + 1 + 1) C.zs) := by
    have := (RowIs.new ((w.alloc (.cells (C.sail (P.onDay x day) a) 116)).alloc (.cells #[.int .i64 day] 3)) C.zs 32).below (al _ (.cells #[.slice none 0 0] 47))
    rwa [World.size_alloc, World.size_alloc] at this
  have HI : Aside (RowIs ((((w.alloc (.cells (C.sail (P.onDay x day) a) 116)).alloc (.cells #[.int .i64 day] 3)).alloc O.zs).alloc (.cells #[.slice none 0 0] 47)) (w.heap.size + 1 + 1 + 1) #[.slice none 0 0]) := by
    have := RowIs.new (((w.alloc (.cells (C.sail (P.onDay x day) a) 116)).alloc (.cells #[.int .i64 day] 3)).alloc O.zs) #[.slice none 0 0] 47
    rwa [World.size_alloc, World.size_alloc, World.size_alloc] at this
  have hsx : SailAt ((((w.alloc (.cells (C.sail (P.onDay x day) a) 116)).alloc (.cells #[.int .i64 day] 3)).alloc O.zs).alloc (.cells #[.slice none 0 0] 47)) (P.onDay x day) a := ⟨(hs.below hb4).ship, (hs.below hb4).fare, (hs.below hb4).bks⟩
  have hEd := onDay_right hE hd
  have HH : Aside (HowIds ((((w.alloc (.cells (C.sail (P.onDay x day) a) 116)).alloc (.cells #[.int .i64 day] 3)).alloc O.zs).alloc (.cells #[.slice none 0 0] 47)).heap.size ((((w.alloc (.cells (C.sail (P.onDay x day) a) 116)).alloc (.cells #[.int .i64 day] 3)).alloc O.zs).alloc (.cells #[.slice none 0 0] 47)) (P.onDay x day) 138 #[.pointer (some ⟨w.heap.size + 1, 0, none⟩), .pointer (some ⟨w.heap.size, 0, none⟩), .pointer (some ⟨w.heap.size + 1 + 1 + 1, 0, none⟩)] (w.heap.size + 1 + 1 + 1) (P.turnS (P.onDay x day)) (P.lateI day x.bks)) :=
    turn1_how _ (P.onDay x day) a w ((((w.alloc (.cells (C.sail (P.onDay x day) a) 116)).alloc (.cells #[.int .i64 day] 3)).alloc O.zs).alloc (.cells #[.slice none 0 0] 47)) (w.heap.size + 1) w.heap.size (w.heap.size + 1 + 1 + 1) ⟨hs.ship, hs.fare, hs.bks⟩ hb4 (by omega) (by omega) (by omega) (by omega) HD.out HX.out (by omega) (by omega) HI.out hEd
  have HC : Aside (Calls Tryz.prog 117 #[V.sail (P.onDay x day) a, .func (.func 138) #[] #[.pointer (some ⟨w.heap.size + 1, 0, none⟩), .pointer (some ⟨w.heap.size, 0, none⟩), .pointer (some ⟨w.heap.size + 1 + 1 + 1, 0, none⟩)]] ((((w.alloc (.cells (C.sail (P.onDay x day) a) 116)).alloc (.cells #[.int .i64 day] 3)).alloc O.zs).alloc (.cells #[.slice none 0 0] 47)) _) :=
    anewIds_any _ (w.heap.size + 1 + 1 + 1) (P.onDay x day) a _ _ (P.turnS (P.onDay x day)) (P.lateI day x.bks) ((((w.alloc (.cells (C.sail (P.onDay x day) a) 116)).alloc (.cells #[.int .i64 day] 3)).alloc O.zs).alloc (.cells #[.slice none 0 0] 47)) (Nat.le_refl _) (by omega) hsx (small_of hEd) (turn_right hEd) turn1_calls HH.out
  have HB4 : Aside (Below w.heap.size w ((((w.alloc (.cells (C.sail (P.onDay x day) a) 116)).alloc (.cells #[.int .i64 day] 3)).alloc O.zs).alloc (.cells #[.slice none 0 0] 47))) := hb4
  have HZ4 : Aside (((((w.alloc (.cells (C.sail (P.onDay x day) a) 116)).alloc (.cells #[.int .i64 day] 3)).alloc O.zs).alloc (.cells #[.slice none 0 0] 47)).heap.size = w.heap.size + 1 + 1 + 1 + 1) := hz4
  obtain ⟨d0, d1, d2, d3, d4, d5, d6, d7, d8, d9, d10, d11, d12⟩ := SRow.box hX3
  have k0 : (((w.alloc (.cells (C.sail x a) 116)).alloc (.cells #[.int .i64 day] 3)).alloc O.zs).cell? ⟨w.heap.size + 1, 0, none⟩ = some (.int .i64 day) := hD3.cell 0
  have f9 := hX3.free 9
  obtain ⟨e0, e1, e2, e3, e4, e5, e6, e7, e8, e9, e10, e11, e12⟩ := SRow.box HX.out
  clear hs hE hd hb4 hz4 hsx hEd HH hX3 hD3
  go_enter Tryz.func86, Tryz.ntmps86
  go_wp2_with fail
  refine HC.out.mono ?_
  rintro e w1 ⟨a1, rfl, hU, hsp, hids⟩
  have hs1 := sail_below w1 (P.turnS (P.onDay x day)) a1
  rw [HZ4.out] at hids
  have hsp2 := hsp.mono (Nat.le_of_eq HZ4.out.symm)
  have HB1 : Aside (Below w.heap.size w (W.sail w1 (P.turnS (P.onDay x day)) a1)) := bvia (HB4.out.trans (hsp2.below (by omega) (by omega))) hs1
  have hZ1 : RowIs w1 (w.heap.size + 1 + 1) C.zs := HZ.out.spare hsp2 (by omega) (by omega)
  have HZ1 : Aside (RowIs (W.sail w1 (P.turnS (P.onDay x day)) a1) (w.heap.size + 1 + 1) C.zs) := hZ1.below hs1
  have HR1 : Aside (SRow (W.sail w1 (P.turnS (P.onDay x day)) a1) w1.heap.size (P.turnS (P.onDay x day)) a1) := RowIs.new w1 _ _
  have HU1 : Aside (SailUp ((((w.alloc (.cells (C.sail (P.onDay x day) a) 116)).alloc (.cells #[.int .i64 day] 3)).alloc O.zs).alloc (.cells #[.slice none 0 0] 47)).heap.size (W.sail w1 (P.turnS (P.onDay x day)) a1) (P.turnS (P.onDay x day)) a1) := hU.below hs1
  obtain ⟨vi, i1, i2⟩ := hids.below hs1
  have HI1 : Aside (RowIs (W.sail w1 (P.turnS (P.onDay x day)) a1) (w.heap.size + 1 + 1 + 1) #[vi]) := i1
  have HV1 : Aside (OwnJ (W.sail w1 (P.turnS (P.onDay x day)) a1) (w.heap.size + 1 + 1 + 1 + 1 + 1 + 1) vi (P.lateI day x.bks)) := i2
  have hw1 : w.heap.size + 1 + 1 + 1 < w1.heap.size := by
    have h1 := hsp2.size
    have h2 := HZ4.out
    omega
  clear d0 d1 d2 d3 d4 d5 d6 d7 d8 d9 d10 d11 d12 e0 e1 e2 e3 e4 e5 e6 e7 e8 e9 e10 e11 e12 k0 f9 hU hsp hsp2 hids hs1 hZ1 i1 i2 HC HX HD HZ HI
  go_upto_region 6 with (fail)
  change Code.wp Tryz.prog _ _ _ (W.sail w1 (P.turnS (P.onDay x day)) a1)
  have hw2 : w1.heap.size < (W.sail w1 (P.turnS (P.onDay x day)) a1).heap.size := HR1.out.lt
  generalize W.sail w1 (P.turnS (P.onDay x day)) a1 = wB at HB1 HZ1 HR1 HU1 HI1 HV1 hw2 ⊢
  obtain ⟨d0, d1, d2, d3, d4, d5, d6, d7, d8, d9, d10, d11, d12⟩ := SRow.box HR1.out
  have i0 : wB.cell? ⟨w.heap.size + 1 + 1 + 1, 0, none⟩ = some vi := HI1.out.cell 0
  refine wp_region_before (L := 4) (S := fun u : World => u.cell? ⟨w1.heap.size, 0, none⟩ = some (.int .i64 (P.turnS (P.onDay x day)).s.legs) ∧ u.cell? ⟨w1.heap.size, 1, none⟩ = some (.int .i64 (P.turnS (P.onDay x day)).s.souls) ∧ u.cell? ⟨w1.heap.size, 2, none⟩ = some (.slice a1.v.cao (P.turnS (P.onDay x day)).s.cs.length a1.v.cc) ∧ u.cell? ⟨w1.heap.size, 3, none⟩ = some (.slice a1.v.bao (P.turnS (P.onDay x day)).s.bs.length a1.v.bc) ∧ u.cell? ⟨w1.heap.size, 4, none⟩ = some (.slice a1.lo (P.turnS (P.onDay x day)).L.length a1.lc) ∧ u.cell? ⟨w1.heap.size, 5, none⟩ = some (.int .i64 (P.turnS (P.onDay x day)).al) ∧ u.cell? ⟨w1.heap.size, 6, none⟩ = some (.int .i64 (P.turnS (P.onDay x day)).th) ∧ u.cell? ⟨w1.heap.size, 7, none⟩ = some (.slice a1.bo (P.turnS (P.onDay x day)).B.length a1.bc) ∧ u.cell? ⟨w1.heap.size, 8, none⟩ = some (.int .i64 (P.turnS (P.onDay x day)).dn) ∧ u.cell? ⟨w1.heap.size, 9, none⟩ = some (.int .i64 (P.turnS (P.onDay x day)).day) ∧ u.cell? ⟨w1.heap.size, 10, none⟩ = some (.int .i64 (P.turnS (P.onDay x day)).lvs) ∧ u.cell? ⟨w1.heap.size, 11, none⟩ = some (.slice a1.ao (P.turnS (P.onDay x day)).bks.length a1.cap) ∧ u.cell? ⟨w1.heap.size, 12, none⟩ = some (.bool (P.turnS (P.onDay x day)).cl) ∧ u.cell? ⟨w.heap.size + 1 + 1 + 1, 0, none⟩ = some vi) (by kernel_rfl) (fun hset => ?_)
  have hS : (fun u : World => u.cell? ⟨w1.heap.size, 0, none⟩ = some (.int .i64 (P.turnS (P.onDay x day)).s.legs) ∧ u.cell? ⟨w1.heap.size, 1, none⟩ = some (.int .i64 (P.turnS (P.onDay x day)).s.souls) ∧ u.cell? ⟨w1.heap.size, 2, none⟩ = some (.slice a1.v.cao (P.turnS (P.onDay x day)).s.cs.length a1.v.cc) ∧ u.cell? ⟨w1.heap.size, 3, none⟩ = some (.slice a1.v.bao (P.turnS (P.onDay x day)).s.bs.length a1.v.bc) ∧ u.cell? ⟨w1.heap.size, 4, none⟩ = some (.slice a1.lo (P.turnS (P.onDay x day)).L.length a1.lc) ∧ u.cell? ⟨w1.heap.size, 5, none⟩ = some (.int .i64 (P.turnS (P.onDay x day)).al) ∧ u.cell? ⟨w1.heap.size, 6, none⟩ = some (.int .i64 (P.turnS (P.onDay x day)).th) ∧ u.cell? ⟨w1.heap.size, 7, none⟩ = some (.slice a1.bo (P.turnS (P.onDay x day)).B.length a1.bc) ∧ u.cell? ⟨w1.heap.size, 8, none⟩ = some (.int .i64 (P.turnS (P.onDay x day)).dn) ∧ u.cell? ⟨w1.heap.size, 9, none⟩ = some (.int .i64 (P.turnS (P.onDay x day)).day) ∧ u.cell? ⟨w1.heap.size, 10, none⟩ = some (.int .i64 (P.turnS (P.onDay x day)).lvs) ∧ u.cell? ⟨w1.heap.size, 11, none⟩ = some (.slice a1.ao (P.turnS (P.onDay x day)).bks.length a1.cap) ∧ u.cell? ⟨w1.heap.size, 12, none⟩ = some (.bool (P.turnS (P.onDay x day)).cl) ∧ u.cell? ⟨w.heap.size + 1 + 1 + 1, 0, none⟩ = some vi) { wB with drawn := wB.drawn + 1 } := ⟨cellIn (dr _) d0, cellIn (dr _) d1, cellIn (dr _) d2, cellIn (dr _) d3, cellIn (dr _) d4, cellIn (dr _) d5, cellIn (dr _) d6, cellIn (dr _) d7, cellIn (dr _) d8, cellIn (dr _) d9, cellIn (dr _) d10, cellIn (dr _) d11, cellIn (dr _) d12, cellIn (dr _) i0⟩
  refine wpAnyB_put (i := 0) (n := 40) (d := (some 24)) (v := ?_) hset rfl rfl (by kernel_rfl) (by kernel_rfl) (by kernel_rfl) (by kernel_rfl) (by decide) (fun _ _ _ h => h) (Or.inl ⟨by rfl, ?_⟩) hS (fun hset => ?_)
  rotate_left
  · (intro w hSw; (try dsimp only at hSw); go_simp; try with_reducible rfl)
  simp only [Act.put, List.setIfInBounds_toArray, List.set_cons_zero, List.set_cons_succ, List.getElem_toArray, List.getElem_cons_succ, List.getElem_cons_zero]
  refine wpAnyB_steps (rs := [1, 2]) (by kernel_rfl) (by simp) ?_
  refine StepsB.ahead rfl hset (by kernel_rfl) (fun hset K hK => ?way2) (StepsB.ahead rfl hset (by kernel_rfl) (fun hset K hK => ?way1) StepsB.nil)
  case' way2 =>
    simp only [List.getElem_toArray, List.getElem_cons_succ, List.getElem_cons_zero]
    go_simp
    refine hK.out _ _ ?_ (fun hS => ?_)
    · exact ⟨cellIn (dr _) d0, cellIn (dr _) d1, cellIn (dr _) d2, cellIn (dr _) d3, cellIn (dr _) d4, cellIn (dr _) d5, cellIn (dr _) d6, cellIn (dr _) d7, cellIn (dr _) d8, cellIn (dr _) d9, cellIn (dr _) d10, cellIn (dr _) d11, cellIn (dr _) d12, cellIn (dr _) i0⟩
    clear hK K
    try simp only [Act.put, List.setIfInBounds_toArray, List.set_cons_zero, List.set_cons_succ, List.getElem_toArray, List.getElem_cons_succ, List.getElem_cons_zero]
    refine wpAnyB_steps (rs := [2]) (by kernel_rfl) (by simp) ?_
    refine StepsB.ahead rfl hset (by kernel_rfl) (fun hset K hK => ?_) StepsB.nil
    refine step_of' (by rfl) (wp_stC 32 _ _ (by rfl) (w.heap.size + 1 + 1) C.zs (C.sail (P.turnS (P.onDay x day)) a1) Tryz.sizeSail (by rfl) (by rfl) (HZ1.out.below (dr _)) rfl (sail_one _ _) ?_)
    intro w9 hr9 gr9
    refine hK.out _ _ ?_ (fun hS => ?_)
    · exact ⟨cell_gr gr9 d0 (by simp <;> omega), cell_gr gr9 d1 (by simp <;> omega), cell_gr gr9 d2 (by simp <;> omega), cell_gr gr9 d3 (by simp <;> omega), cell_gr gr9 d4 (by simp <;> omega), cell_gr gr9 d5 (by simp <;> omega), cell_gr gr9 d6 (by simp <;> omega), cell_gr gr9 d7 (by simp <;> omega), cell_gr gr9 d8 (by simp <;> omega), cell_gr gr9 d9 (by simp <;> omega), cell_gr gr9 d10 (by simp <;> omega), cell_gr gr9 d11 (by simp <;> omega), cell_gr gr9 d12 (by simp <;> omega), cell_gr gr9 i0 (by simp <;> omega)⟩
    clear hK K
    try simp only [Act.put, List.setIfInBounds_toArray, List.set_cons_zero, List.set_cons_succ, List.getElem_toArray, List.getElem_cons_succ, List.getElem_cons_zero]
    refine wpAnyB_put0 (i := 3) (d := (some 5)) (v := ?_) hset rfl rfl (by kernel_rfl) (by kernel_rfl) (by kernel_rfl) (by decide) (fun _ _ _ h => h) (Or.inl ⟨by rfl, ?_⟩) (fun _ => hS) (fun hset => ?_)
    rotate_left
    · (intro w; go_simp; try with_reducible rfl)
    simp only [Act.put, List.setIfInBounds_toArray, List.set_cons_zero, List.set_cons_succ, List.getElem_toArray, List.getElem_cons_succ, List.getElem_cons_zero]
    refine wpAnyB_steps (rs := [4]) (by kernel_rfl) (by simp) ?_
    refine StepsB.behind rfl hset (by kernel_rfl) (by kernel_rfl) (fun hset K hK => ?_) StepsB.nil
    simp only [List.getElem_toArray, List.getElem_cons_succ, List.getElem_cons_zero]
    go_simp
    refine hK.out _ _ ?_
    clear hK K
    try simp only [Act.put, List.setIfInBounds_toArray, List.set_cons_zero, List.set_cons_succ, List.getElem_toArray, List.getElem_cons_succ, List.getElem_cons_zero]
  case' way1 =>
    refine step_of' (by rfl) (wp_stC 32 _ _ (by rfl) (w.heap.size + 1 + 1) C.zs (C.sail (P.turnS (P.onDay x day)) a1) Tryz.sizeSail (by rfl) (by rfl) (HZ1.out.below (dr _)) rfl (sail_one _ _) ?_)
    intro w9 hr9 gr9
    refine hK.out _ _ ?_ (fun hS => ?_)
    · exact ⟨cell_gr gr9 d0 (by simp <;> omega), cell_gr gr9 d1 (by simp <;> omega), cell_gr gr9 d2 (by simp <;> omega), cell_gr gr9 d3 (by simp <;> omega), cell_gr gr9 d4 (by simp <;> omega), cell_gr gr9 d5 (by simp <;> omega), cell_gr gr9 d6 (by simp <;> omega), cell_gr gr9 d7 (by simp <;> omega), cell_gr gr9 d8 (by simp <;> omega), cell_gr gr9 d9 (by simp <;> omega), cell_gr gr9 d10 (by simp <;> omega), cell_gr gr9 d11 (by simp <;> omega), cell_gr gr9 d12 (by simp <;> omega), cell_gr gr9 i0 (by simp <;> omega)⟩
    clear hK K
    try simp only [Act.put, List.setIfInBounds_toArray, List.set_cons_zero, List.set_cons_succ, List.getElem_toArray, List.getElem_cons_succ, List.getElem_cons_zero]
    refine wpAnyB_steps (rs := [1]) (by kernel_rfl) (by simp) ?_
    refine StepsB.ahead rfl hset (by kernel_rfl) (fun hset K hK => ?_) StepsB.nil
    simp only [List.getElem_toArray, List.getElem_cons_succ, List.getElem_cons_zero]
    go_simp
    refine hK.out _ _ ?_ (fun hS => ?_)
    · exact ⟨cell_gr gr9 d0 (by simp <;> omega), cell_gr gr9 d1 (by simp <;> omega), cell_gr gr9 d2 (by simp <;> omega), cell_gr gr9 d3 (by simp <;> omega), cell_gr gr9 d4 (by simp <;> omega), cell_gr gr9 d5 (by simp <;> omega), cell_gr gr9 d6 (by simp <;> omega), cell_gr gr9 d7 (by simp <;> omega), cell_gr gr9 d8 (by simp <;> omega), cell_gr gr9 d9 (by simp <;> omega), cell_gr gr9 d10 (by simp <;> omega), cell_gr gr9 d11 (by simp <;> omega), cell_gr gr9 d12 (by simp <;> omega), cell_gr gr9 i0 (by simp <;> omega)⟩
    clear hK K
    try simp only [Act.put, List.setIfInBounds_toArray, List.set_cons_zero, List.set_cons_succ, List.getElem_toArray, List.getElem_cons_succ, List.getElem_cons_zero]
    refine wpAnyB_put0 (i := 3) (d := (some 5)) (v := ?_) hset rfl rfl (by kernel_rfl) (by kernel_rfl) (by kernel_rfl) (by decide) (fun _ _ _ h => h) (Or.inl ⟨by rfl, ?_⟩) (fun _ => hS) (fun hset => ?_)
    rotate_left
    · (intro w; go_simp; try with_reducible rfl)
    simp only [Act.put, List.setIfInBounds_toArray, List.set_cons_zero, List.set_cons_succ, List.getElem_toArray, List.getElem_cons_succ, List.getElem_cons_zero]
    refine wpAnyB_steps (rs := [4]) (by kernel_rfl) (by simp) ?_
    refine StepsB.behind rfl hset (by kernel_rfl) (by kernel_rfl) (fun hset K hK => ?_) StepsB.nil
    simp only [List.getElem_toArray, List.getElem_cons_succ, List.getElem_cons_zero]
    go_simp
    refine hK.out _ _ ?_
    clear hK K
    try simp only [Act.put, List.setIfInBounds_toArray, List.set_cons_zero, List.set_cons_succ, List.getElem_toArray, List.getElem_cons_succ, List.getElem_cons_zero]
  all_goals refine wpAnyB_done (by kernel_rfl) ?_ _
  all_goals
    have HR9 : Aside (SRow w9 (w.heap.size + 1 + 1) (P.turnS (P.onDay x day)) a1) := hr9
    have HG9 : Aside (wB.drew.grownBy w9 (some (w.heap.size + 1 + 1))) := gr9
    clear hr9 gr9 hset hS d0 d1 d2 d3 d4 d5 d6 d7 d8 d9 d10 d11 d12 i0
    go_wp2
    exact bodyPost_ret (res3 rfl HR9.out _ rfl rfl rfl Tryz.underlying32 rfl Tryz.sizeSail) rfl ⟨vi, a1, rfl, SailUp.mono (SailUp.up (SailUp.below HU1.out (dr _)) (Up.gr HG9.out (by have := HZ4.out; omega))) (by have := HZ4.out; omega), OwnC.ahead (OwnC.apart (OwnC.below HV1.out (dr _)) HG9.out (fun r e hv => by cases e; have := (HV1.out.lt _ hv).1; omega)) (by omega), below_gr (bvia HB1.out (dr _)) (bvia HB1.out (dr _)).size HG9.out (by omega)⟩

/-- What Turn answers. -/
def P.TurnE (x : Sail) (day r : Int) (y : Sail) (l : List Int) : Prop :=
  (∃ q, P.SailE x q ∧ ¬ q = 0 ∧ r = q ∧ y = P.zeroS ∧ l = []) ∨
  (P.SailE x 0 ∧ ((¬ (0 ≤ day ∧ day ≤ 9999) ∧ r = 3 ∧ y = P.zeroS ∧ l = []) ∨ ((0 ≤ day ∧ day ≤ 9999) ∧ day ≤ x.day ∧ r = 4 ∧ y = P.zeroS ∧ l = []) ∨
    ((0 ≤ day ∧ day ≤ 9999) ∧ x.day < day ∧ r = 0 ∧ y = P.turnS (P.onDay x day) ∧ l = P.lateI day x.bks)))
set_option maxHeartbeats 16000000 in
theorem voyTurn_any (x : Sail) (a : SailA) (day : Int) (w : World) (hs : SailAt w x a) :
    Calls Tryz.prog 32 #[V.sail x a, .int .i64 day] w fun e w' => ∃ r y a' v l, e = .returned (.tuple #[V.sail y a', v, .int .i64 r]) ∧ P.TurnE x day r y l ∧ SailUp w.heap.size w' y a' ∧ OwnJ w' w.heap.size v l ∧ Below w.heap.size w w' := by
  have HS : Aside (SailAt w x a) := hs
  have hb0 : Below w.heap.size w ((W.sail w x a).alloc O.zs) := bvia (sail_below w x a) (al _ _)
  have HX0 : Aside (SRow ((W.sail w x a).alloc O.zs) w.heap.size x a) := (RowIs.new w _ _ : SRow (W.sail w x a) w.heap.size x a).below (al _ _)
  have HZ0 : Aside (RowIs ((W.sail w x a).alloc O.zs) (w.heap.size + 1) C.zs) := by
    have := RowIs.new (W.sail w x a) C.zs 32
    rwa [World.size_alloc] at this
  have hz0 : ((W.sail w x a).alloc O.zs).heap.size = w.heap.size + 1 + 1 := by simp
  clear hs
  obtain ⟨d0, d1, d2, d3, d4, d5, d6, d7, d8, d9, d10, d11, d12⟩ := SRow.box HX0.out
  go_enter Tryz.func32, Tryz.ntmps32
  go_wp2_with fail
  refine (stockCheck_any x a _ (HS.out.below hb0)).mono ?_
  rintro e w1 ⟨q, rfl, hq, hb1⟩
  have hsz1 : w.heap.size + 1 + 1 ≤ w1.heap.size := by rw [← hz0]; exact hb1.size
  have hB1 := bvia hb0 hb1
  have HX1 : Aside (SRow w1 w.heap.size x a) := HX0.out.below hb1
  have HZ1 : Aside (RowIs w1 (w.heap.size + 1) C.zs) := HZ0.out.below hb1
  have HQ : Aside (P.SailE x q) := hq
  clear d0 d1 d2 d3 d4 d5 d6 d7 d8 d9 d10 d11 d12 HX0 HZ0 hb0 hb1 hq hz0
  cases hz : (q != 0)
  rotate_left
  · have HN : Aside (¬ q = 0) := by show ¬ _; simpa using hz
    go_wp2_with ((with_reducible refine wpList_stO (w.heap.size + 1) C.zs (C.sail P.zeroS A.zeroS) ?_ ?_ ?_ HZ1.out ?_ ?_ ?_); exact Tryz.sizeSail; rfl; rfl; rfl; exact sail_one _ _; intro w9 hr9 hg9)
    exact bodyPost_ret (res3 rfl hr9 _ rfl rfl rfl Tryz.underlying32 rfl Tryz.sizeSail) rfl ⟨q, P.zeroS, A.zeroS, .slice none 0 0, [], rfl, .inl ⟨q, HQ.out, HN.out, rfl, rfl, rfl⟩, SailUp.zero _ _, OwnC.nil _ _, below_gr hB1 hB1.size hg9 (by omega)⟩
  obtain rfl : q = 0 := by simpa using hz
  clear hz
  by_cases h1 : day < 0
  · have HD : Aside (¬ (0 ≤ day ∧ day ≤ 9999)) := by show ¬ _; omega
    go_wp2_with ((with_reducible refine wpList_stO (w.heap.size + 1) C.zs (C.sail P.zeroS A.zeroS) ?_ ?_ ?_ HZ1.out ?_ ?_ ?_); exact Tryz.sizeSail; rfl; rfl; rfl; exact sail_one _ _; intro w9 hr9 hg9)
    exact bodyPost_ret (res3 rfl hr9 _ rfl rfl rfl Tryz.underlying32 rfl Tryz.sizeSail) rfl ⟨3, P.zeroS, A.zeroS, .slice none 0 0, [], rfl, .inr ⟨HQ.out, .inl ⟨HD.out, rfl, rfl, rfl⟩⟩, SailUp.zero _ _, OwnC.nil _ _, below_gr hB1 hB1.size hg9 (by omega)⟩
  by_cases h2 : 9999 < day
  · have HD : Aside (¬ (0 ≤ day ∧ day ≤ 9999)) := by show ¬ _; omega
    go_wp2_with ((with_reducible refine wpList_stO (w.heap.size + 1) C.zs (C.sail P.zeroS A.zeroS) ?_ ?_ ?_ HZ1.out ?_ ?_ ?_); exact Tryz.sizeSail; rfl; rfl; rfl; exact sail_one _ _; intro w9 hr9 hg9)
    exact bodyPost_ret (res3 rfl hr9 _ rfl rfl rfl Tryz.underlying32 rfl Tryz.sizeSail) rfl ⟨3, P.zeroS, A.zeroS, .slice none 0 0, [], rfl, .inr ⟨HQ.out, .inl ⟨HD.out, rfl, rfl, rfl⟩⟩, SailUp.zero _ _, OwnC.nil _ _, below_gr hB1 hB1.size hg9 (by omega)⟩
  have HD : Aside (0 ≤ day ∧ day ≤ 9999) := by show _ ∧ _; omega
  obtain ⟨d0, d1, d2, d3, d4, d5, d6, d7, d8, d9, d10, d11, d12⟩ := SRow.box HX1.out
  by_cases h3 : day ≤ x.day
  · have H3 : Aside (day ≤ x.day) := h3
    go_wp2_with ((with_reducible refine wpList_stO (w.heap.size + 1) C.zs (C.sail P.zeroS A.zeroS) ?_ ?_ ?_ HZ1.out ?_ ?_ ?_); exact Tryz.sizeSail; rfl; rfl; rfl; exact sail_one _ _; intro w9 hr9 hg9)
    exact bodyPost_ret (res3 rfl hr9 _ rfl rfl rfl Tryz.underlying32 rfl Tryz.sizeSail) rfl ⟨4, P.zeroS, A.zeroS, .slice none 0 0, [], rfl, .inr ⟨HQ.out, .inr (.inl ⟨HD.out, H3.out, rfl, rfl, rfl⟩)⟩, SailUp.zero _ _, OwnC.nil _ _, below_gr hB1 hB1.size hg9 (by omega)⟩
  have H3 : Aside (x.day < day) := by show _ < _; omega
  go_wp2_with fail
  refine (turn_any x a day _ (HS.out.below hB1) HQ.out HD.out).mono ?_
  rintro e w2 ⟨v, a2, rfl, hU2, hV2, hb2⟩
  have HU2 : Aside (SailUp w1.heap.size w2 (P.turnS (P.onDay x day)) a2) := hU2
  have HV2 : Aside (OwnJ w2 w1.heap.size v (P.lateI day x.bks)) := hV2
  have HB2 : Aside (Below w.heap.size w w2) := bvia hB1 hb2
  have HZ2 : Aside (RowIs w2 (w.heap.size + 1) C.zs) := HZ1.out.below hb2
  clear d0 d1 d2 d3 d4 d5 d6 d7 d8 d9 d10 d11 d12 hU2 hV2 hb2 hB1 HZ1 HX1
  go_wp2_with ((with_reducible refine wpList_stO (w.heap.size + 1) C.zs (C.sail (P.turnS (P.onDay x day)) a2) ?_ ?_ ?_ HZ2.out ?_ ?_ ?_); exact Tryz.sizeSail; rfl; rfl; rfl; exact sail_one _ _; intro w9 hr9 hg9)
  exact bodyPost_ret (res3 rfl hr9 _ rfl rfl rfl Tryz.underlying32 rfl Tryz.sizeSail) rfl ⟨0, P.turnS (P.onDay x day), a2, v, P.lateI day x.bks, rfl, .inr ⟨HQ.out, .inr (.inr ⟨HD.out, H3.out, rfl, rfl, rfl⟩)⟩, SailUp.mono (SailUp.up HU2.out (Up.gr hg9 (by omega))) (by omega), OwnC.ahead (OwnC.apart HV2.out hg9 (fun r e hv => by cases e; have := (HV2.out.lt _ hv).1; omega)) (by omega), below_gr HB2.out HB2.out.size hg9 (by omega)⟩

end Go.Proofs.YtlamhfbdeinkkaeGreat.St
