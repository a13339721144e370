/- The reference: PayOf. -/
import Derived.Test.YtlamhfbdeinkkaeGreatChDo
import Derived.Test.YtlamhfbdeinkkaeGreatChHo
import Derived.Test.YtlamhfbdeinkkaeGreatLtAo
import Derived.Test.YtlamhfbdeinkkaeGreatBaCo
namespace Go.Proofs.YtlamhfbdeinkkaeGreat.St
open Go.RowKit Bk
set_option linter.unusedSimpArgs false
set_option linter.unusedVariables false
set_option maxRecDepth 10000

theorem wpN_app1 {o : Oper} {a : Act} {K : Act → World → Prop} {Q : Exit → Act → World → Prop} {u W0 : World} (s x : Operand) (ho : o.op = .call { callee := .builtin .append, args := #[s, x], argTypes := #[35, 35] }) (B : Nat) (hao : Option Addr) (hcap : Nat) (l : List Fo.Ent)
    (hv : a.eval s = .slice (some ⟨B, 0, none⟩) 0 0) (hbase : W0.heap.size ≤ B) (hB : u.heap[B]? = some (.cells #[] 59 (0, 0))) (hx : a.eval x = .slice hao l.length hcap) (hin : Fo.EntsAt u hao hcap l) (hl : l.length ≤ 1000) (hB0 : Below W0.heap.size W0 u)
    (h : ∀ ao cap u', Fo.OwnN u' W0.heap.size (.slice ao l.length cap) l → Below u.heap.size u u' → Below W0.heap.size W0 u' → K (a.put o.dst (.slice ao l.length cap)) u') : o.wp Tryz.prog a u K Q :=
  wpC_app1 Fo.Tryz.infoEntry Tryz.underlying35 rfl (by decide) Fo.cellsN_len Fo.cellsN_one (by decide) s x ho B hao hcap l hv hbase hB hx hin hl hB0 h
theorem wpN_app3 {o : Oper} {a : Act} {K : Act → World → Prop} {Q : Exit → Act → World → Prop} {u : World} {base : Nat} (s x : Operand) (ho : o.op = .call { callee := .builtin .append, args := #[s, x], argTypes := #[35, 35] }) (v : Value) (B : Nat) (l L : List Fo.Ent) (d k m : Int) (hL : l ++ [(d, k, m)] = L)
    (hv : a.eval s = v) (hown : Fo.OwnN u base v l) (hx : a.eval x = .slice (some ⟨B, 0, none⟩) 1 1) (h0 : u.cell? ⟨B, 0, none⟩ = some (.int .i64 d)) (h1 : u.cell? ⟨B, 1, none⟩ = some (.int .i64 k)) (h2 : u.cell? ⟨B, 2, none⟩ = some (.int .i64 m)) (hl : l.length ≤ 1000) (hbase : base ≤ u.heap.size)
    (h : ∀ g cap u', Fo.OwnN u' base (.slice (some ⟨g, 0, none⟩) L.length cap) L → u.grownBy u' v.ownBlock → K (a.put o.dst (.slice (some ⟨g, 0, none⟩) L.length cap)) u') : o.wp Tryz.prog a u K Q :=
  wpC_app3 Fo.Tryz.infoEntry Tryz.underlying35 rfl (by decide) Fo.cellsN_len Fo.cellsN_one (by decide) s x ho v B l L (d, k, m) hL hv hown hx (fun j c hj => by
    match j, hj with
    | 0, hj => simp [Fo.cellsN] at hj; subst hj; exact h0
    | 1, hj => simp [Fo.cellsN] at hj; subst hj; exact h1
    | 2, hj => simp [Fo.cellsN] at hj; subst hj; exact h2) hl hbase h
theorem heap_new2N (w : World) (a b : Obj) : ((w.alloc a).alloc b).heap[w.heap.size + 1]? = some b := by
  have := heap_alloc_new (w.alloc a) b
  rwa [World.size_alloc] at this
theorem heap_old2N (w : World) (a b : Obj) : ((w.alloc a).alloc b).heap[w.heap.size]? = some a := (Below.heap_alloc _ _ _ (by simp)).trans (heap_alloc_new w a)

set_option maxHeartbeats 16000000 in
theorem payOf_any (x : Sail) (a : SailA) (id m : Int) (w0 w : World) (hb00 : Below w0.heap.size w0 w) (hs0 : SailAt w0 x a) (hE : P.SailE x 0) :
    Calls Tryz.prog 24 #[V.sail x a, .int .i64 id, .int .i64 m] w fun e w' => ∃ r y a', e = .returned (.tuple #[V.sail y a', .int .i64 r]) ∧ P.Ch x id (P.payT x.day m) r y ∧ SailTw w0.heap.size w.heap.size w' y a' ∧ Below w.heap.size w w' := by
  have hs : SailAt w x a := hs0.below hb00
  obtain ⟨hp, _, h0, hbk, h16, _⟩ := sail_ok hE
  have H0 : Aside (P.shp x.s = 0) := h0
  have HBK : Aside (∀ b ∈ x.bks, P.bkE x.s b = 0) := hbk
  have hrise := (bksI_rise (pre_zero hp).2.1).2
  have hle := hs.bks.le
  have hmx := hs.bks.max
  unfold maxLen at hmx
  obtain ⟨lv, hlv, hl⟩ := BksAt.pick hs0.bks
  have hln : lv.length = x.bks.length := by rw [← hlv]; simp
  have HS0 : Aside (SailAt w0 x a) := hs0
  have HB00 : Aside (Below w0.heap.size w0 w) := hb00
  have HS : Aside (SailAt w x a) := hs
  have HLV : Aside (lv.map (·.1) = x.bks) := hlv
  have HLE : Aside (BkVsAt w0 a.ao a.cap lv) := hl
  have HLN : Aside (lv.length = x.bks.length) := hln
  have hb0 : Below w.heap.size w ((W.sail w x a).alloc O.zs) := bvia (sail_below w x a) (al _ _)
  have HX0 : Aside (SRow ((W.sail w x a).alloc O.zs) w.heap.size x a) := (RowIs.new w _ _ : SRow (W.sail w x a) w.heap.size x a).below (al _ _)
  have HZ0 : Aside (RowIs ((W.sail w x a).alloc O.zs) (w.heap.size + 1) C.zs) := by
    have := RowIs.new (W.sail w x a) C.zs 32
    rwa [World.size_alloc] at this
  have HR : Aside (x.bks.Pairwise (fun a b => a.id < b.id)) := hrise
  clear h0 hbk hs hs0 hb00 hE hp hrise hlv hl hln
  obtain ⟨d0, d1, d2, d3, d4, d5, d6, d7, d8, d9, d10, d11, d12⟩ := SRow.box HX0.out
  go_enter Tryz.func24, Tryz.ntmps24
  go_wp2_with fail
  refine (liveAt_any x a id _ (HS.out.below hb0) HR.out h16).mono ?_
  rintro e w1 ⟨n, rfl, hn, hb1⟩
  have hB1 := bvia hb0 hb1
  have HX1 : Aside (SRow w1 w.heap.size x a) := HX0.out.below hb1
  have HZ1 : Aside (RowIs w1 (w.heap.size + 1) C.zs) := HZ0.out.below hb1
  have HN : Aside (P.LiveIs x.bks id n) := hn
  clear d0 d1 d2 d3 d4 d5 d6 d7 d8 d9 d10 d11 d12 HX0 HZ0 hb0 hb1
  rcases hn with ⟨k, b, rfl, hget, hid, hst⟩ | ⟨rfl, hno⟩
  rotate_left
  · clear hno
    go_wp2_with ((with_reducible refine wpList_stO (w.heap.size + 1) C.zs (C.sail P.zeroS A.zeroS) ?_ ?_ ?_ HZ1.out ?_ ?_ ?_); exact Tryz.sizeSail; rfl; rfl; rfl; exact sail_one _ _; intro w9 hr9 hg9)
    exact bodyPost_ret (res2 rfl hr9 _ rfl rfl Tryz.underlying32 rfl Tryz.sizeSail) rfl ⟨5, P.zeroS, A.zeroS, rfl, .inl ⟨HN.out, rfl, rfl⟩, SailTw.zero _ _ _, below_gr hB1 hB1.size hg9 (by omega)⟩
  have hkl : k < x.bks.length := (List.getElem?_eq_some_iff.1 hget).1
  obtain ⟨b2, o2, v, hao2, hbw2, hd2, ⟨y0, y1, y2, y3, y4, y5, y6, y7, y8, y9, y10⟩, hfy2⟩ := BkVsAt.get HLE.out (bvia HB00.out hB1) k (by rw [HLN.out]; exact hkl)
  have HVM : Aside (v ∈ lv) := List.mem_of_mem_drop (i := k) (by rw [hd2]; exact List.mem_cons.2 (.inl rfl))
  have hyy : v.1 = b := by
    have h0 : lv[k]? = some v := by
      have := congrArg (fun l => l[0]?) hd2
      simpa using this
    have h1 : (lv.map (·.1))[k]? = some v.1 := by rw [List.getElem?_map, h0]; rfl
    rw [HLV.out, hget] at h1
    exact (Option.some.inj h1).symm
  obtain ⟨vb, fo, fc⟩ := v
  have hyy : vb = b := hyy
  subst hyy
  have HG : Aside (x.bks[k]? = some vb) := hget
  have HST : Aside (vb.state ≠ 3) := hst
  have d11 : w1.cell? ⟨w.heap.size, 11, none⟩ = some (.slice a.ao x.bks.length a.cap) := HX1.out.cell 11
  rw [hao2] at d11
  have hkl2 : (k : Int) < x.bks.length := by omega
  have hx1 : w.heap.size < w1.heap.size := HX1.out.lt
  have hx2 : w.heap.size + 1 < w1.heap.size := HZ1.out.lt
  have HBA : Aside (Below w1.heap.size w1 (W.bk w1 vb fo fc)) := bk_below w1 vb fo fc
  have HAO : Aside (a.ao = some ⟨b2, o2, none⟩) := hao2
  clear hget hid hst hd2 hfy2 hao2
  have HZ2 : Aside (RowIs (W.bk w1 vb fo fc) (w.heap.size + 1) C.zs) := HZ1.out.below HBA.out
  have HX2 : Aside (SRow (W.bk w1 vb fo fc) w.heap.size x a) := HX1.out.below HBA.out
  have HY2 : Aside (RowIs (W.bk w1 vb fo fc) w1.heap.size (C.bk vb fo fc)) := RowIs.new w1 _ _
  have hB2 := bvia hB1 HBA.out
  have HENT : Aside (∀ U, Below w0.heap.size w0 U → Fo.EntsAt U fo fc vb.fol) := fun U hU => SlAt.below Fo.REnt.mono (HLE.out.ents _ HVM.out) hU
  have HF0 : Aside (Fo.P.folE vb.fol = 0) := (bk_ok (HBK.out vb (List.mem_of_getElem? HG.out))).2.2.2.2.2.2.2.2
  have hf12 := Fo.folE_len HF0.out
  have HAM : Aside (∀ z ∈ vb.fol, -10000000000 ≤ z.2.2 ∧ z.2.2 ≤ 10000000000) := fun z hz => by
    have := Fo.folE_amt HF0.out z hz
    omega
  go_wp2_with fail
  refine (between_any m 1 100000000 _).mono ?_
  rintro e w2 ⟨rfl, rfl⟩
  cases hbt : P.btw m 1 100000000
  · have HP : Aside (P.payE x.day m vb = 3) := by
      show _ = _
      rw [P.payE, if_pos (by simp [P.btw] at hbt; omega)]
    go_wp2_with ((with_reducible refine wpList_stO (w.heap.size + 1) C.zs (C.sail P.zeroS A.zeroS) ?_ ?_ ?_ HZ2.out ?_ ?_ ?_); exact Tryz.sizeSail; rfl; rfl; rfl; exact sail_one _ _; intro w9 hr9 hg9)
    exact bodyPost_ret (res2 rfl hr9 _ rfl rfl Tryz.underlying32 rfl Tryz.sizeSail) rfl ⟨3, P.zeroS, A.zeroS, rfl, .inr ⟨k, vb, HN.out, HG.out, 3, vb, ⟨HP.out.symm, fun h => absurd h (by decide)⟩, .inl ⟨by decide, rfl, rfl⟩⟩, SailTw.zero _ _ _, below_gr hB2 hB2.size hg9 (by omega)⟩
  have hm1 : 1 ≤ m ∧ m ≤ 100000000 := by simpa [P.btw] using hbt
  clear hbt
  have HPE : Aside (P.payE x.day m vb = if Fo.P.ftot Fo.P.all vb.fol < m then 4 else Fo.P.addE vb.fol (x.day, 2, -m)) := by
    show _ = _
    rw [P.payE, if_neg (by omega), if_pos HF0.out, Fo.P.owed, if_pos HF0.out, Fo.sumL_ftot]
  obtain ⟨z0, z1, z2, z3, z4, z5, z6, z7, z8, z9, z10⟩ := HY2.out.bbox
  have HSM : Aside (∀ wx, Fo.EntsAt wx fo fc vb.fol → Calls Tryz.prog 79 #[.slice fo vb.fol.length fc, .int .i64 0] wx fun e w' => e = .returned (.int .i64 (Fo.P.ftot Fo.P.all vb.fol)) ∧ Below wx.heap.size wx w') := fun wx hx => by
    rw [← Fo.ofKind_zero]
    exact Fo.sumOf_any fo fc vb.fol 0 wx hx (by omega) HAM.out
  generalize Fo.P.ftot Fo.P.all vb.fol = T at HSM HPE
  go_wp2_with fail
  refine Calls.mono (HSM.out _ (HENT.out _ (bvia HB00.out hB2))) ?_
  rintro e w4 ⟨rfl, hb4⟩
  have HX4 : Aside (SRow w4 w.heap.size x a) := HX2.out.below hb4
  have HY4 : Aside (RowIs w4 w1.heap.size (C.bk vb fo fc)) := HY2.out.below hb4
  have HZ4 : Aside (RowIs w4 (w.heap.size + 1) C.zs) := HZ2.out.below hb4
  have hB4 := bvia hB2 hb4
  have HB4 : Aside (Below w.heap.size w w4) := hB4
  have hx4 := HY4.out.lt
  clear d11 y0 y1 y2 y3 y4 y5 y6 y7 y8 y9 y10 z0 z1 z2 z3 z4 z5 z6 z7 z8 z9 z10 hb4 HSM HX2 HY2 HZ2 hB2 hB1 HX1 HZ1 HBA
  by_cases h3 : T < m
  · have HP : Aside (P.payE x.day m vb = 4) := by show _ = _; rw [HPE.out, if_pos h3]
    go_wp2_with ((with_reducible refine wpList_stO (w.heap.size + 1) C.zs (C.sail P.zeroS A.zeroS) ?_ ?_ ?_ HZ4.out ?_ ?_ ?_); exact Tryz.sizeSail; rfl; rfl; rfl; exact sail_one _ _; intro w9 hr9 hg9)
    exact bodyPost_ret (res2 rfl hr9 _ rfl rfl Tryz.underlying32 rfl Tryz.sizeSail) rfl ⟨4, P.zeroS, A.zeroS, rfl, .inr ⟨k, vb, HN.out, HG.out, 4, vb, ⟨HP.out.symm, fun h => absurd h (by decide)⟩, .inl ⟨by decide, rfl, rfl⟩⟩, SailTw.zero _ _ _, below_gr hB4 hB4.size hg9 (by omega)⟩
  have HP : Aside (P.payE x.day m vb = Fo.P.addE vb.fol (x.day, 2, -m)) := by show _ = _; rw [HPE.out, if_neg h3]
  have hwr : IntKind.i64.wrap (-m) = -m := by rw [IntKind.wrap_i64]; omega
  obtain ⟨L, hL⟩ : ∃ L, vb.fol ++ [((x.day, 2, -m) : Fo.Ent)] = L := ⟨_, rfl⟩
  have HL : Aside (vb.fol ++ [((x.day, 2, -m) : Fo.Ent)] = L) := hL
  have HL4 : Aside (Fo.EntsAt w4 fo fc vb.fol) := HENT.out _ (bvia HB00.out hB4)
  have q10 : w4.cell? ⟨w1.heap.size, 10, none⟩ = some (.slice fo vb.fol.length fc) := HY4.out.cell 10
  have q9 : w4.cell? ⟨w.heap.size, 9, none⟩ = some (.int .i64 x.day) := HX4.out.cell 9
  clear hL hB4 HPE
  go_wp2
  refine wp_region_before (L := 12) (S := fun u : World => u.cell? ⟨w1.heap.size, 10, none⟩ = some (.slice fo vb.fol.length fc) ∧ u.cell? ⟨w.heap.size, 9, none⟩ = some (.int .i64 x.day)) (by kernel_rfl) (fun hset => ?_)
  have hS : (fun u : World => u.cell? ⟨w1.heap.size, 10, none⟩ = some (.slice fo vb.fol.length fc) ∧ u.cell? ⟨w.heap.size, 9, none⟩ = some (.int .i64 x.day)) { w4 with drawn := w4.drawn + 1 } := ⟨q10, q9⟩
  refine wpAnyB_put0 (i := 1) (d := (some 33)) (v := ?_) hset rfl rfl (by kernel_rfl) (by kernel_rfl) (by kernel_rfl) (by decide) (fun _ _ _ h => h) (Or.inl ⟨by rfl, ?_⟩) (fun _ => hS) (fun hset => ?_)
  rotate_left
  · (intro w; go_simp; try with_reducible rfl)
  simp only [Act.put, List.setIfInBounds_toArray, List.set_cons_zero, List.set_cons_succ]
  refine wpAnyB_put (i := 2) (n := 40) (d := (some 34)) (v := ?_) hset rfl rfl (by kernel_rfl) (by kernel_rfl) (by kernel_rfl) (by kernel_rfl) (by decide) (fun _ _ _ h => h) (Or.inl ⟨by rfl, ?_⟩) hS (fun hset => ?_)
  rotate_left
  · (intro w hSw; (try dsimp only at hSw); go_simp; try with_reducible rfl)
  simp only [Act.put, List.setIfInBounds_toArray, List.set_cons_zero, List.set_cons_succ]
  refine wpAnyB_put0 (i := 4) (d := (some 36)) (v := ?_) hset rfl rfl (by kernel_rfl) (by kernel_rfl) (by kernel_rfl) (by decide) (fun _ _ _ h => h) (Or.inl ⟨by rfl, ?_⟩) (fun _ => hS) (fun hset => ?_)
  rotate_left
  · (intro w; go_simp; try with_reducible rfl)
  simp only [Act.put, List.setIfInBounds_toArray, List.set_cons_zero, List.set_cons_succ]
  refine wpAnyB_put (i := 5) (n := 40) (d := (some 37)) (v := ?_) hset rfl rfl (by kernel_rfl) (by kernel_rfl) (by kernel_rfl) (by kernel_rfl) (by decide) (fun _ _ _ h => h) (Or.inl ⟨by rfl, ?_⟩) hS (fun hset => ?_)
  rotate_left
  · (intro w hSw; (try dsimp only at hSw); go_simp; try with_reducible rfl)
  simp only [Act.put, List.setIfInBounds_toArray, List.set_cons_zero, List.set_cons_succ]
  refine wpAnyB_put0 (i := 6) (d := (some 38)) (v := ?_) hset rfl rfl (by kernel_rfl) (by kernel_rfl) (by kernel_rfl) (by decide) (fun _ _ _ h => h) (Or.inl ⟨by rfl, ?_⟩) (fun _ => hS) (fun hset => ?_)
  rotate_left
  · (intro w; go_simp; try with_reducible rfl)
  simp only [Act.put, List.setIfInBounds_toArray, List.set_cons_zero, List.set_cons_succ]
  refine wpAnyB_put0 (i := 7) (d := (some 39)) (v := ?_) hset rfl rfl (by kernel_rfl) (by kernel_rfl) (by kernel_rfl) (by decide) (fun _ _ _ h => h) (Or.inl ⟨by rfl, ?_⟩) (fun _ => hS) (fun hset => ?_)
  rotate_left
  · (intro w; go_simp; try with_reducible rfl)
  simp only [Act.put, List.setIfInBounds_toArray, List.set_cons_zero, List.set_cons_succ]
  refine wpAnyB_put0 (i := 8) (d := (some 40)) (v := ?_) hset rfl rfl (by kernel_rfl) (by kernel_rfl) (by kernel_rfl) (by decide) (fun _ _ _ h => h) (Or.inl ⟨by rfl, ?_⟩) (fun _ => hS) (fun hset => ?_)
  rotate_left
  · (intro w; go_simp; try with_reducible rfl)
  simp only [Act.put, List.setIfInBounds_toArray, List.set_cons_zero, List.set_cons_succ]
  refine wpAnyB_steps (rs := [0, 9]) (by kernel_rfl) (by simp) ?_
  refine StepsB.ahead rfl hset (by kernel_rfl) (fun hset K hK => ?way2) (StepsB.ahead rfl hset (by kernel_rfl) (fun hset K hK => ?way1) StepsB.nil)
  case' way2 =>
    simp only [List.getElem_toArray, List.getElem_cons_succ, List.getElem_cons_zero]
    go_simp
    refine hK.out _ _ ?_ (fun hS => ?_)
    · (first | exact ⟨cellIn bW2 q10, cellIn bW2 q9⟩ | exact ⟨cellIn (bvia bW (al _ _)) q10, cellIn (bvia bW (al _ _)) q9⟩ | exact ⟨cellIn bW q10, cellIn bW q9⟩ | exact ⟨cellIn (bvia (dr _) (al _ _)) q10, cellIn (bvia (dr _) (al _ _)) q9⟩ | exact ⟨cellIn (bvia (bvia (dr _) (al _ _)) (al _ _)) q10, cellIn (bvia (bvia (dr _) (al _ _)) (al _ _)) q9⟩ | exact ⟨cellIn (by go_grown) q10, cellIn (by go_grown) q9⟩)
    clear hK K
    try simp only [Act.put, List.setIfInBounds_toArray, List.set_cons_zero, List.set_cons_succ, List.getElem_toArray, List.getElem_cons_succ, List.getElem_cons_zero]
    refine wpAnyB_steps (rs := [3, 9]) (by kernel_rfl) (by simp) ?_
    refine StepsB.ahead rfl hset (by kernel_rfl) (fun hset K hK => ?way4) (StepsB.ahead rfl hset (by kernel_rfl) (fun hset K hK => ?way3) StepsB.nil)
    case' way4 =>
      refine step_of' (by rfl) (wpN_app1 (W0 := w4) _ _ (by rfl) _ fo fc vb.fol (by rfl) (by first | exact Nat.le_refl _ | exact Nat.le_add_right _ _) (by first | exact heap_alloc_new _ _ | exact heap_old2N _ _ _ | exact heap_new2N _ _ _) (by rfl) (SlAt.below Fo.REnt.mono HL4.out (by go_grown)) (by omega) (by go_grown) ?_)
      intro ao6 cap6 u6 own6 bu6 bW
      refine hK.out _ _ ?_ (fun hS => ?_)
      · (first | exact ⟨cellIn bW2 q10, cellIn bW2 q9⟩ | exact ⟨cellIn (bvia bW (al _ _)) q10, cellIn (bvia bW (al _ _)) q9⟩ | exact ⟨cellIn bW q10, cellIn bW q9⟩ | exact ⟨cellIn (bvia (dr _) (al _ _)) q10, cellIn (bvia (dr _) (al _ _)) q9⟩ | exact ⟨cellIn (bvia (bvia (dr _) (al _ _)) (al _ _)) q10, cellIn (bvia (bvia (dr _) (al _ _)) (al _ _)) q9⟩ | exact ⟨cellIn (by go_grown) q10, cellIn (by go_grown) q9⟩)
      clear hK K
      try simp only [Act.put, List.setIfInBounds_toArray, List.set_cons_zero, List.set_cons_succ, List.getElem_toArray, List.getElem_cons_succ, List.getElem_cons_zero]
      refine wpAnyB_steps (rs := [9]) (by kernel_rfl) (by simp) ?_
      refine StepsB.ahead rfl hset (by kernel_rfl) (fun hset K hK => ?_) StepsB.nil
      simp only [List.getElem_toArray, List.getElem_cons_succ, List.getElem_cons_zero]
      go_simp
      refine hK.out _ _ ?_ (fun hS => ?_)
      · (first | exact ⟨cellIn bW2 q10, cellIn bW2 q9⟩ | exact ⟨cellIn (bvia bW (al _ _)) q10, cellIn (bvia bW (al _ _)) q9⟩ | exact ⟨cellIn bW q10, cellIn bW q9⟩ | exact ⟨cellIn (bvia (dr _) (al _ _)) q10, cellIn (bvia (dr _) (al _ _)) q9⟩ | exact ⟨cellIn (bvia (bvia (dr _) (al _ _)) (al _ _)) q10, cellIn (bvia (bvia (dr _) (al _ _)) (al _ _)) q9⟩ | exact ⟨cellIn (by go_grown) q10, cellIn (by go_grown) q9⟩)
      clear hK K
      try simp only [Act.put, List.setIfInBounds_toArray, List.set_cons_zero, List.set_cons_succ, List.getElem_toArray, List.getElem_cons_succ, List.getElem_cons_zero]
      refine wpAnyB_steps (rs := [10]) (by kernel_rfl) (by simp) ?_
      refine StepsB.ahead rfl hset (by kernel_rfl) (fun hset K hK => ?_) StepsB.nil
      refine step_of' (by rfl) (wpN_app3 (base := w4.heap.size) _ _ (by rfl) _ _ vb.fol L x.day 2 (-m) HL.out (by rfl) (by first | exact own6 | exact OwnC.below own6 (by go_grown)) (by rfl) (by first | simp | exact cellIn bu6 (by simp)) (by first | simp | exact cellIn bu6 (by simp)) (by first | simp | exact cellIn bu6 (by simp)) (by omega) (by first | exact bW.size | (have := bW.size; simp; omega)) ?_)
      intro g7 cap7 u7 own7 gr7
      have bW2 : Below w4.heap.size w4 u7 := (by first | exact OwnC.grown bW own6 (Nat.le_refl _) gr7 | exact OwnC.grown (bvia bW (by go_grown)) (OwnC.below own6 (by go_grown)) (Nat.le_refl _) gr7)
      have q10' : u7.cell? ⟨w1.heap.size, 10, none⟩ = some (.slice fo vb.fol.length fc) := cellIn bW2 q10
      have f10' : u7.frozen? ⟨w1.heap.size, 10, none⟩ = false := (HY4.out.below bW2).free 10
      refine hK.out _ _ ?_ (fun hS => ?_)
      · (first | exact ⟨cellIn bW2 q10, cellIn bW2 q9⟩ | exact ⟨cellIn (bvia bW (al _ _)) q10, cellIn (bvia bW (al _ _)) q9⟩ | exact ⟨cellIn bW q10, cellIn bW q9⟩ | exact ⟨cellIn (bvia (dr _) (al _ _)) q10, cellIn (bvia (dr _) (al _ _)) q9⟩ | exact ⟨cellIn (bvia (bvia (dr _) (al _ _)) (al _ _)) q10, cellIn (bvia (bvia (dr _) (al _ _)) (al _ _)) q9⟩ | exact ⟨cellIn (by go_grown) q10, cellIn (by go_grown) q9⟩)
      clear hK K
      try simp only [Act.put, List.setIfInBounds_toArray, List.set_cons_zero, List.set_cons_succ, List.getElem_toArray, List.getElem_cons_succ, List.getElem_cons_zero]
      refine wpAnyB_put0 (i := 11) (d := (some 43)) (v := ?_) hset rfl rfl (by kernel_rfl) (by kernel_rfl) (by kernel_rfl) (by decide) (fun _ _ _ h => h) (Or.inl ⟨by rfl, ?_⟩) (fun _ => hS) (fun hset => ?_)
      rotate_left
      · (intro w; go_simp; try with_reducible rfl)
      simp only [Act.put, List.setIfInBounds_toArray, List.set_cons_zero, List.set_cons_succ]
      refine wpAnyB_steps (rs := [12]) (by kernel_rfl) (by simp) ?_
      refine StepsB.behind rfl hset (by kernel_rfl) (by kernel_rfl) (fun hset K hK => ?_) StepsB.nil
      simp only [List.getElem_toArray, List.getElem_cons_succ, List.getElem_cons_zero]
      go_simp
      refine hK.out _ _ ?_
      clear hK K
      try simp only [Act.put, List.setIfInBounds_toArray, List.set_cons_zero, List.set_cons_succ, List.getElem_toArray, List.getElem_cons_succ, List.getElem_cons_zero]
    case' way3 =>
      simp only [List.getElem_toArray, List.getElem_cons_succ, List.getElem_cons_zero]
      go_simp
      refine hK.out _ _ ?_ (fun hS => ?_)
      · (first | exact ⟨cellIn bW2 q10, cellIn bW2 q9⟩ | exact ⟨cellIn (bvia bW (al _ _)) q10, cellIn (bvia bW (al _ _)) q9⟩ | exact ⟨cellIn bW q10, cellIn bW q9⟩ | exact ⟨cellIn (bvia (dr _) (al _ _)) q10, cellIn (bvia (dr _) (al _ _)) q9⟩ | exact ⟨cellIn (bvia (bvia (dr _) (al _ _)) (al _ _)) q10, cellIn (bvia (bvia (dr _) (al _ _)) (al _ _)) q9⟩ | exact ⟨cellIn (by go_grown) q10, cellIn (by go_grown) q9⟩)
      clear hK K
      try simp only [Act.put, List.setIfInBounds_toArray, List.set_cons_zero, List.set_cons_succ, List.getElem_toArray, List.getElem_cons_succ, List.getElem_cons_zero]
      refine wpAnyB_steps (rs := [3]) (by kernel_rfl) (by simp) ?_
      refine StepsB.ahead rfl hset (by kernel_rfl) (fun hset K hK => ?_) StepsB.nil
      refine step_of' (by rfl) (wpN_app1 (W0 := w4) _ _ (by rfl) _ fo fc vb.fol (by rfl) (by first | exact Nat.le_refl _ | exact Nat.le_add_right _ _) (by first | exact heap_alloc_new _ _ | exact heap_old2N _ _ _ | exact heap_new2N _ _ _) (by rfl) (SlAt.below Fo.REnt.mono HL4.out (by go_grown)) (by omega) (by go_grown) ?_)
      intro ao6 cap6 u6 own6 bu6 bW
      refine hK.out _ _ ?_ (fun hS => ?_)
      · (first | exact ⟨cellIn bW2 q10, cellIn bW2 q9⟩ | exact ⟨cellIn (bvia bW (al _ _)) q10, cellIn (bvia bW (al _ _)) q9⟩ | exact ⟨cellIn bW q10, cellIn bW q9⟩ | exact ⟨cellIn (bvia (dr _) (al _ _)) q10, cellIn (bvia (dr _) (al _ _)) q9⟩ | exact ⟨cellIn (bvia (bvia (dr _) (al _ _)) (al _ _)) q10, cellIn (bvia (bvia (dr _) (al _ _)) (al _ _)) q9⟩ | exact ⟨cellIn (by go_grown) q10, cellIn (by go_grown) q9⟩)
      clear hK K
      try simp only [Act.put, List.setIfInBounds_toArray, List.set_cons_zero, List.set_cons_succ, List.getElem_toArray, List.getElem_cons_succ, List.getElem_cons_zero]
      refine wpAnyB_steps (rs := [10]) (by kernel_rfl) (by simp) ?_
      refine StepsB.ahead rfl hset (by kernel_rfl) (fun hset K hK => ?_) StepsB.nil
      refine step_of' (by rfl) (wpN_app3 (base := w4.heap.size) _ _ (by rfl) _ _ vb.fol L x.day 2 (-m) HL.out (by rfl) (by first | exact own6 | exact OwnC.below own6 (by go_grown)) (by rfl) (by first | simp | exact cellIn bu6 (by simp)) (by first | simp | exact cellIn bu6 (by simp)) (by first | simp | exact cellIn bu6 (by simp)) (by omega) (by first | exact bW.size | (have := bW.size; simp; omega)) ?_)
      intro g7 cap7 u7 own7 gr7
      have bW2 : Below w4.heap.size w4 u7 := (by first | exact OwnC.grown bW own6 (Nat.le_refl _) gr7 | exact OwnC.grown (bvia bW (by go_grown)) (OwnC.below own6 (by go_grown)) (Nat.le_refl _) gr7)
      have q10' : u7.cell? ⟨w1.heap.size, 10, none⟩ = some (.slice fo vb.fol.length fc) := cellIn bW2 q10
      have f10' : u7.frozen? ⟨w1.heap.size, 10, none⟩ = false := (HY4.out.below bW2).free 10
      refine hK.out _ _ ?_ (fun hS => ?_)
      · (first | exact ⟨cellIn bW2 q10, cellIn bW2 q9⟩ | exact ⟨cellIn (bvia bW (al _ _)) q10, cellIn (bvia bW (al _ _)) q9⟩ | exact ⟨cellIn bW q10, cellIn bW q9⟩ | exact ⟨cellIn (bvia (dr _) (al _ _)) q10, cellIn (bvia (dr _) (al _ _)) q9⟩ | exact ⟨cellIn (bvia (bvia (dr _) (al _ _)) (al _ _)) q10, cellIn (bvia (bvia (dr _) (al _ _)) (al _ _)) q9⟩ | exact ⟨cellIn (by go_grown) q10, cellIn (by go_grown) q9⟩)
      clear hK K
      try simp only [Act.put, List.setIfInBounds_toArray, List.set_cons_zero, List.set_cons_succ, List.getElem_toArray, List.getElem_cons_succ, List.getElem_cons_zero]
      refine wpAnyB_put0 (i := 11) (d := (some 43)) (v := ?_) hset rfl rfl (by kernel_rfl) (by kernel_rfl) (by kernel_rfl) (by decide) (fun _ _ _ h => h) (Or.inl ⟨by rfl, ?_⟩) (fun _ => hS) (fun hset => ?_)
      rotate_left
      · (intro w; go_simp; try with_reducible rfl)
      simp only [Act.put, List.setIfInBounds_toArray, List.set_cons_zero, List.set_cons_succ]
      refine wpAnyB_steps (rs := [12]) (by kernel_rfl) (by simp) ?_
      refine StepsB.behind rfl hset (by kernel_rfl) (by kernel_rfl) (fun hset K hK => ?_) StepsB.nil
      simp only [List.getElem_toArray, List.getElem_cons_succ, List.getElem_cons_zero]
      go_simp
      refine hK.out _ _ ?_
      clear hK K
      try simp only [Act.put, List.setIfInBounds_toArray, List.set_cons_zero, List.set_cons_succ, List.getElem_toArray, List.getElem_cons_succ, List.getElem_cons_zero]
  case' way1 =>
    simp only [List.getElem_toArray, List.getElem_cons_succ, List.getElem_cons_zero]
    go_simp
    refine hK.out _ _ ?_ (fun hS => ?_)
    · (first | exact ⟨cellIn bW2 q10, cellIn bW2 q9⟩ | exact ⟨cellIn (bvia bW (al _ _)) q10, cellIn (bvia bW (al _ _)) q9⟩ | exact ⟨cellIn bW q10, cellIn bW q9⟩ | exact ⟨cellIn (bvia (dr _) (al _ _)) q10, cellIn (bvia (dr _) (al _ _)) q9⟩ | exact ⟨cellIn (bvia (bvia (dr _) (al _ _)) (al _ _)) q10, cellIn (bvia (bvia (dr _) (al _ _)) (al _ _)) q9⟩ | exact ⟨cellIn (by go_grown) q10, cellIn (by go_grown) q9⟩)
    clear hK K
    try simp only [Act.put, List.setIfInBounds_toArray, List.set_cons_zero, List.set_cons_succ, List.getElem_toArray, List.getElem_cons_succ, List.getElem_cons_zero]
    refine wpAnyB_steps (rs := [0]) (by kernel_rfl) (by simp) ?_
    refine StepsB.ahead rfl hset (by kernel_rfl) (fun hset K hK => ?_) StepsB.nil
    simp only [List.getElem_toArray, List.getElem_cons_succ, List.getElem_cons_zero]
    go_simp
    refine hK.out _ _ ?_ (fun hS => ?_)
    · (first | exact ⟨cellIn bW2 q10, cellIn bW2 q9⟩ | exact ⟨cellIn (bvia bW (al _ _)) q10, cellIn (bvia bW (al _ _)) q9⟩ | exact ⟨cellIn bW q10, cellIn bW q9⟩ | exact ⟨cellIn (bvia (dr _) (al _ _)) q10, cellIn (bvia (dr _) (al _ _)) q9⟩ | exact ⟨cellIn (bvia (bvia (dr _) (al _ _)) (al _ _)) q10, cellIn (bvia (bvia (dr _) (al _ _)) (al _ _)) q9⟩ | exact ⟨cellIn (by go_grown) q10, cellIn (by go_grown) q9⟩)
    clear hK K
    try simp only [Act.put, List.setIfInBounds_toArray, List.set_cons_zero, List.set_cons_succ, List.getElem_toArray, List.getElem_cons_succ, List.getElem_cons_zero]
    refine wpAnyB_steps (rs := [3]) (by kernel_rfl) (by simp) ?_
    refine StepsB.ahead rfl hset (by kernel_rfl) (fun hset K hK => ?_) StepsB.nil
    refine step_of' (by rfl) (wpN_app1 (W0 := w4) _ _ (by rfl) _ fo fc vb.fol (by rfl) (by first | exact Nat.le_refl _ | exact Nat.le_add_right _ _) (by first | exact heap_alloc_new _ _ | exact heap_old2N _ _ _ | exact heap_new2N _ _ _) (by rfl) (SlAt.below Fo.REnt.mono HL4.out (by go_grown)) (by omega) (by go_grown) ?_)
    intro ao6 cap6 u6 own6 bu6 bW
    refine hK.out _ _ ?_ (fun hS => ?_)
    · (first | exact ⟨cellIn bW2 q10, cellIn bW2 q9⟩ | exact ⟨cellIn (bvia bW (al _ _)) q10, cellIn (bvia bW (al _ _)) q9⟩ | exact ⟨cellIn bW q10, cellIn bW q9⟩ | exact ⟨cellIn (bvia (dr _) (al _ _)) q10, cellIn (bvia (dr _) (al _ _)) q9⟩ | exact ⟨cellIn (bvia (bvia (dr _) (al _ _)) (al _ _)) q10, cellIn (bvia (bvia (dr _) (al _ _)) (al _ _)) q9⟩ | exact ⟨cellIn (by go_grown) q10, cellIn (by go_grown) q9⟩)
    clear hK K
    try simp only [Act.put, List.setIfInBounds_toArray, List.set_cons_zero, List.set_cons_succ, List.getElem_toArray, List.getElem_cons_succ, List.getElem_cons_zero]
    refine wpAnyB_steps (rs := [10]) (by kernel_rfl) (by simp) ?_
    refine StepsB.ahead rfl hset (by kernel_rfl) (fun hset K hK => ?_) StepsB.nil
    refine step_of' (by rfl) (wpN_app3 (base := w4.heap.size) _ _ (by rfl) _ _ vb.fol L x.day 2 (-m) HL.out (by rfl) (by first | exact own6 | exact OwnC.below own6 (by go_grown)) (by rfl) (by first | simp | exact cellIn bu6 (by simp)) (by first | simp | exact cellIn bu6 (by simp)) (by first | simp | exact cellIn bu6 (by simp)) (by omega) (by first | exact bW.size | (have := bW.size; simp; omega)) ?_)
    intro g7 cap7 u7 own7 gr7
    have bW2 : Below w4.heap.size w4 u7 := (by first | exact OwnC.grown bW own6 (Nat.le_refl _) gr7 | exact OwnC.grown (bvia bW (by go_grown)) (OwnC.below own6 (by go_grown)) (Nat.le_refl _) gr7)
    have q10' : u7.cell? ⟨w1.heap.size, 10, none⟩ = some (.slice fo vb.fol.length fc) := cellIn bW2 q10
    have f10' : u7.frozen? ⟨w1.heap.size, 10, none⟩ = false := (HY4.out.below bW2).free 10
    refine hK.out _ _ ?_ (fun hS => ?_)
    · (first | exact ⟨cellIn bW2 q10, cellIn bW2 q9⟩ | exact ⟨cellIn (bvia bW (al _ _)) q10, cellIn (bvia bW (al _ _)) q9⟩ | exact ⟨cellIn bW q10, cellIn bW q9⟩ | exact ⟨cellIn (bvia (dr _) (al _ _)) q10, cellIn (bvia (dr _) (al _ _)) q9⟩ | exact ⟨cellIn (bvia (bvia (dr _) (al _ _)) (al _ _)) q10, cellIn (bvia (bvia (dr _) (al _ _)) (al _ _)) q9⟩ | exact ⟨cellIn (by go_grown) q10, cellIn (by go_grown) q9⟩)
    clear hK K
    try simp only [Act.put, List.setIfInBounds_toArray, List.set_cons_zero, List.set_cons_succ, List.getElem_toArray, List.getElem_cons_succ, List.getElem_cons_zero]
    refine wpAnyB_put0 (i := 11) (d := (some 43)) (v := ?_) hset rfl rfl (by kernel_rfl) (by kernel_rfl) (by kernel_rfl) (by decide) (fun _ _ _ h => h) (Or.inl ⟨by rfl, ?_⟩) (fun _ => hS) (fun hset => ?_)
    rotate_left
    · (intro w; go_simp; try with_reducible rfl)
    simp only [Act.put, List.setIfInBounds_toArray, List.set_cons_zero, List.set_cons_succ]
    refine wpAnyB_steps (rs := [12]) (by kernel_rfl) (by simp) ?_
    refine StepsB.behind rfl hset (by kernel_rfl) (by kernel_rfl) (fun hset K hK => ?_) StepsB.nil
    simp only [List.getElem_toArray, List.getElem_cons_succ, List.getElem_cons_zero]
    go_simp
    refine hK.out _ _ ?_
    clear hK K
    try simp only [Act.put, List.setIfInBounds_toArray, List.set_cons_zero, List.set_cons_succ, List.getElem_toArray, List.getElem_cons_succ, List.getElem_cons_zero]
  all_goals refine wpAnyB_done (by kernel_rfl) ?_ _
  all_goals
    have HB8 : Aside (Below w.heap.size w (u7.setCell ⟨w1.heap.size, 10, none⟩ (.slice (some ⟨g7, 0, none⟩) L.length cap7))) := below_gr (bvia HB4.out bW2) (bvia HB4.out bW2).size (grown_st _ _ _ _) (by omega)
    have HY8 : Aside (RowIs (u7.setCell ⟨w1.heap.size, 10, none⟩ (.slice (some ⟨g7, 0, none⟩) L.length cap7)) w1.heap.size (C.bk (P.setF vb L) (some ⟨g7, 0, none⟩) cap7)) := RowIs.set (k := 10) (HY4.out.below bW2) _
    have HX8 : Aside (SRow (u7.setCell ⟨w1.heap.size, 10, none⟩ (.slice (some ⟨g7, 0, none⟩) L.length cap7)) w.heap.size x a) := (HX4.out.below bW2).gr (grown_st _ _ _ _) (by simp; omega)
    have HZ8 : Aside (RowIs (u7.setCell ⟨w1.heap.size, 10, none⟩ (.slice (some ⟨g7, 0, none⟩) L.length cap7)) (w.heap.size + 1) C.zs) := (HZ4.out.below bW2).gr (grown_st _ _ _ _) (by simp; omega)
    have HO8 : Aside (Fo.OwnN (u7.setCell ⟨w1.heap.size, 10, none⟩ (.slice (some ⟨g7, 0, none⟩) L.length cap7)) w4.heap.size (.slice (some ⟨g7, 0, none⟩) L.length cap7) L) := OwnC.apart own7 (grown_st _ _ _ _) (fun r e hv => by cases e; have := (own7.lt _ hv).1; omega)
    have HW4 : Aside (w.heap.size ≤ w4.heap.size) := HB4.out.size
    clear own6 own7 bu6 bW bW2 gr7 q9 q10 q10' f10'
    generalize u7.setCell ⟨w1.heap.size, 10, none⟩ (.slice (some ⟨g7, 0, none⟩) L.length cap7) = u8 at HB8 HY8 HX8 HZ8 HO8 ⊢
    obtain ⟨z0, z1, z2, z3, z4, z5, z6, z7, z8, z9, z10⟩ := HY8.out.bbox
    go_wp2_with fail
    refine (Fo.checkFolio_any (some ⟨g7, 0, none⟩) cap7 L _ (ents_own HO8.out)).mono ?_
    rintro e v8 ⟨rfl, hb8⟩
    have HX9 : Aside (SRow v8 w.heap.size x a) := HX8.out.below hb8
    have HY9 : Aside (RowIs v8 w1.heap.size (C.bk (P.setF vb L) (some ⟨g7, 0, none⟩) cap7)) := HY8.out.below hb8
    have HZ9 : Aside (RowIs v8 (w.heap.size + 1) C.zs) := HZ8.out.below hb8
    have HO9 : Aside (Fo.OwnN v8 w4.heap.size (.slice (some ⟨g7, 0, none⟩) L.length cap7) L) := OwnC.below HO8.out hb8
    have hB9 := bvia HB8.out hb8
    have HB9 : Aside (Below w.heap.size w v8) := hB9
    have HP9 : Aside (P.payE x.day m vb = Fo.P.folE L) := by show _ = _; rw [HP.out, Fo.P.addE, if_pos HF0.out, HL.out]
    clear z0 z1 z2 z3 z4 z5 z6 z7 z8 z9 z10 hb8 HX8 HY8 HZ8 HO8 HB8
    cases hz : (Fo.P.folE L != 0)
    rotate_left
    · have HNZ : Aside (¬ Fo.P.folE L = 0) := by show ¬ _; simpa using hz
      go_wp2_with ((with_reducible refine wpList_stO (w.heap.size + 1) C.zs (C.sail P.zeroS A.zeroS) ?_ ?_ ?_ HZ9.out ?_ ?_ ?_); exact Tryz.sizeSail; rfl; rfl; rfl; exact sail_one _ _; intro w9 hr9 hg9)
      exact bodyPost_ret (res2 rfl hr9 _ rfl rfl Tryz.underlying32 rfl Tryz.sizeSail) rfl ⟨(Fo.P.folE L), P.zeroS, A.zeroS, rfl, .inr ⟨k, vb, HN.out, HG.out, (Fo.P.folE L), vb, ⟨HP9.out.symm, fun h => absurd h (by exact HNZ.out)⟩, .inl ⟨HNZ.out, rfl, rfl⟩⟩, SailTw.zero _ _ _, below_gr hB9 hB9.size hg9 (by omega)⟩
    have HZZ : Aside (Fo.P.folE L = 0) := by show _ = _; simpa using hz
    clear hB9
    obtain ⟨d0, d1, d2, d3, d4, d5, d6, d7, d8, d9, d10, d11, d12⟩ := SRow.box HX9.out
    obtain ⟨z0, z1, z2, z3, z4, z5, z6, z7, z8, z9, z10⟩ := HY9.out.bbox
    have HPL : Aside (SlAt (RC cellsV) 11 v8 a.ao a.cap lv) := BkVsAt.plain (SlAt.below RBkV.mono HLE.out (bvia HB00.out HB9.out))
    go_wp2_with fail
    refine (setBooking_own x a lv k (P.setF vb L) (some ⟨g7, 0, none⟩) cap7 v8 HLV.out HPL.out h16 hkl).mono ?_
    rintro e w5 ⟨G, cap, rfl, own5, hb5⟩
    have HO5 : Aside (OwnB w5 v8.heap.size (.slice (some ⟨G, 0, none⟩) x.bks.length cap) (lv.set k (P.setF vb L, some ⟨g7, 0, none⟩, cap7))) := own5
    have HF5 : Aside (Fo.OwnN w5 w4.heap.size (.slice (some ⟨g7, 0, none⟩) L.length cap7) L) := OwnC.below HO9.out hb5
    have HZ5 : Aside (RowIs w5 (w.heap.size + 1) C.zs) := HZ9.out.below hb5
    have hB5 := bvia HB9.out hb5
    have hz9 : w.heap.size + 1 < v8.heap.size := HZ9.out.lt
    have hw4 := HW4.out
    have hv8 := HB9.out.size
    clear d0 d1 d2 d3 d4 d5 d6 d7 d8 d9 d10 d11 d12 z0 z1 z2 z3 z4 z5 z6 z7 z8 z9 z10 own5 hb5 HX9 HY9 HZ9 HO9
    go_wp2_with ((with_reducible refine wpList_stO (w.heap.size + 1) C.zs (C.sail (P.setB x (x.bks.set k (P.setF vb L))) ⟨a.v, a.lo, a.bo, a.lc, a.bc, some ⟨G, 0, none⟩, cap⟩) ?_ ?_ ?_ HZ5.out ?_ ?_ ?_); exact Tryz.sizeSail; rfl; rfl; rfl; exact sail_one _ _; intro w9 hr9 hg9)
    have hB9 := below_gr hB5 hB5.size hg9 (by omega)
    have own9 := OwnC.apart HO5.out hg9 (fun r e hv => by cases e; have := (HO5.out.lt _ hv).1; omega)
    have fol9 := OwnC.apart HF5.out hg9 (fun r e hv => by cases e; have := (HF5.out.lt _ hv).1; omega)
    exact bodyPost_ret (res2 rfl hr9 _ rfl rfl Tryz.underlying32 rfl Tryz.sizeSail) rfl ⟨Fo.P.folE L, (P.setB x (x.bks.set k (P.setF vb L))), ⟨a.v, a.lo, a.bo, a.lc, a.bc, some ⟨G, 0, none⟩, cap⟩, rfl,
      .inr ⟨k, vb, HN.out, HG.out, 0, P.setF vb L, ⟨by rw [HP9.out, HZZ.out], fun _ => by
        show Bkg.mk _ _ _ _ _ _ _ _ _ _ _ = Bkg.mk _ _ _ _ _ _ _ _ _ _ _
        rw [Fo.P.add, if_pos HF0.out, Fo.P.plus, HL.out, if_pos HZZ.out]⟩, .inr ⟨rfl, HZZ.out, rfl⟩⟩,
      setB_tw HS0.out HB00.out HLV.out HLE.out own9 (by omega) hB9 (fun U hU => ents_own (OwnC.up fol9 (w' := U) ⟨hU.1.size, fun c h1 h2 => hU.2 c (by omega) h2⟩)), hB9⟩

end Go.Proofs.YtlamhfbdeinkkaeGreat.St
