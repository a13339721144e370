/- A store of a whole struct inside a region that draws its order. -/
import Derived.Test.YtlamhfbdeinkkaeGreatBxAo
import Derived.Test.YtlamhfbdeinkkaeGreatAnAo
import Derived.Test.YtlamhfbdeinkkaeGreatBaCo
import Derived.Test.YtlamhfbdeinkkaeGreatFoCo
import Derived.Test.YtlamhfbdeinkkaeGreatChDo
import Derived.Test.YtlamhfbdeinkkaeGreatLtAo
namespace Go.Proofs.YtlamhfbdeinkkaeGreat.St
open Go.RowKit Bk
set_option linter.unusedSimpArgs false
set_option linter.unusedVariables false

theorem wp_stC {o : Oper} {act : Act} {K : Act → World → Prop} {Q : Exit → Act → World → Prop} {w : World} (ty : TypeId) (x y : Operand) (ho : o.op = .store ty x y)
    (g : Nat) (old cells : Array Value) (hty : (Tryz.prog.info? ty).map (·.size) = some cells.size) (hx : act.eval x = .pointer (some ⟨g, 0, none⟩)) (hy : act.eval y = .agg cells) (hb : RowIs w g old) (hsz : old.size = cells.size) (h1 : cells.all (·.oneCell') = true)
    (h : ∀ w', RowIs w' g cells → w.grownBy w' (some g) → K (act.put o.dst undef) w') : o.wp Tryz.prog act w K Q := by
  obtain ⟨t, hg⟩ := hb
  exact wp_store_row ty x y ho g cells hx hy t old hg hty hsz h1 (h _ ⟨t, setRow_heap w g old _ t (0, 0) hg⟩ ⟨rfl, rfl, rfl, by simp, fun i hi hne => setRow_other w g i _ (fun e => hne (by rw [e]))⟩)

end Go.Proofs.YtlamhfbdeinkkaeGreat.St
namespace Go.Proofs.YtlamhfbdeinkkaeGreat.St
open Go.RowKit Bk
set_option linter.unusedSimpArgs false
set_option linter.unusedVariables false
set_option maxRecDepth 10000

set_option maxHeartbeats 16000000 in
theorem cancelB_any (x : Sail) (a : SailA) (id : Int) (w0 w : World) (hb00 : Below w0.heap.size w0 w) (hs0 : SailAt w0 x a) (hE : P.SailE x 0) :
    Calls Tryz.prog 25 #[V.sail x a, .int .i64 id] w fun e w' => ∃ r y a', e = .returned (.tuple #[V.sail y a', .int .i64 r]) ∧ P.Ch x id (P.cnT x) r y ∧ SailTw w0.heap.size w.heap.size w' y a' ∧ Below w.heap.size w w' := by
  have HE0 : Aside (P.SailE x 0) := hE
  have HDL : Aside ((0 ≤ x.day ∧ x.day ≤ 9999) ∧ (0 ≤ x.lvs ∧ x.lvs ≤ 9999)) := by
    obtain ⟨hp, hf, _⟩ := sail_ok hE
    obtain ⟨_, _, g3, g4, _⟩ := frame_zero hf
    exact ⟨by simpa [P.btw] using g3, by simpa [P.btw] using g4⟩
  have HBB : Aside (∀ z ∈ x.B, 0 ≤ z.2 ∧ z.2 ≤ 100) := by
    obtain ⟨hp, hf, _⟩ := sail_ok hE
    exact Fo.bandsE_in (Fo.fareE_zero (frame_zero hf).2.1).2.2.2.2.2.2.2
  have hs : SailAt w x a := hs0.below hb00
  obtain ⟨hp, _, h0, hbk, h16, _⟩ := sail_ok hE
  have H0 : Aside (P.shp x.s = 0) := h0
  have HBK : Aside (∀ b ∈ x.bks, P.bkE x.s b = 0) := hbk
  have hrise := (bksI_rise (pre_zero hp).2.1).2
  have hle := hs.bks.le
  have hmx := hs.bks.max
  unfold maxLen at hmx
  obtain ⟨lv, hlv, hl⟩ := BksAt.pick hs0.bks
  have hln : lv.length = x.bks.length := by rw [← hlv]; simp
  have HS0 : Aside (SailAt w0 x a) := hs0
  have HB00 : Aside (Below w0.heap.size w0 w) := hb00
  have HS : Aside (SailAt w x a) := hs
  have HLV : Aside (lv.map (·.1) = x.bks) := hlv
  have HLE : Aside (BkVsAt w0 a.ao a.cap lv) := hl
  have HLN : Aside (lv.length = x.bks.length) := hln
  have hb0 : Below w.heap.size w ((W.sail w x a).alloc O.zs) := bvia (sail_below w x a) (al _ _)
  have HX0 : Aside (SRow ((W.sail w x a).alloc O.zs) w.heap.size x a) := (RowIs.new w _ _ : SRow (W.sail w x a) w.heap.size x a).below (al _ _)
  have HZ0 : Aside (RowIs ((W.sail w x a).alloc O.zs) (w.heap.size + 1) C.zs) := by
    have := RowIs.new (W.sail w x a) C.zs 32
    rwa [World.size_alloc] at this
  have HR : Aside (x.bks.Pairwise (fun a b => a.id < b.id)) := hrise
  clear h0 hbk hs hs0 hb00 hE hp hrise hlv hl hln
  obtain ⟨d0, d1, d2, d3, d4, d5, d6, d7, d8, d9, d10, d11, d12⟩ := SRow.box HX0.out
  go_enter Tryz.func25, Tryz.ntmps25
  go_wp2_with fail
  refine (liveAt_any x a id _ (HS.out.below hb0) HR.out h16).mono ?_
  rintro e w1 ⟨n, rfl, hn, hb1⟩
  have hB1 := bvia hb0 hb1
  have HX1 : Aside (SRow w1 w.heap.size x a) := HX0.out.below hb1
  have HZ1 : Aside (RowIs w1 (w.heap.size + 1) C.zs) := HZ0.out.below hb1
  have HN : Aside (P.LiveIs x.bks id n) := hn
  clear d0 d1 d2 d3 d4 d5 d6 d7 d8 d9 d10 d11 d12 HX0 HZ0 hb0 hb1
  rcases hn with ⟨k, b, rfl, hget, hid, hst⟩ | ⟨rfl, hno⟩
  rotate_left
  · clear hno
    go_wp2_with ((with_reducible refine wpList_stO (w.heap.size + 1) C.zs (C.sail P.zeroS A.zeroS) ?_ ?_ ?_ HZ1.out ?_ ?_ ?_); exact Tryz.sizeSail; rfl; rfl; rfl; exact sail_one _ _; intro w9 hr9 hg9)
    exact bodyPost_ret (res2 rfl hr9 _ rfl rfl Tryz.underlying32 rfl Tryz.sizeSail) rfl ⟨5, P.zeroS, A.zeroS, rfl, .inl ⟨HN.out, rfl, rfl⟩, SailTw.zero _ _ _, below_gr hB1 hB1.size hg9 (by omega)⟩
  have hkl : k < x.bks.length := (List.getElem?_eq_some_iff.1 hget).1
  obtain ⟨b2, o2, v, hao2, hbw2, hd2, ⟨y0, y1, y2, y3, y4, y5, y6, y7, y8, y9, y10⟩, hfy2⟩ := BkVsAt.get HLE.out (bvia HB00.out hB1) k (by rw [HLN.out]; exact hkl)
  have HVM : Aside (v ∈ lv) := List.mem_of_mem_drop (i := k) (by rw [hd2]; exact List.mem_cons.2 (.inl rfl))
  have hyy : v.1 = b := by
    have h0 : lv[k]? = some v := by
      have := congrArg (fun l => l[0]?) hd2
      simpa using this
    have h1 : (lv.map (·.1))[k]? = some v.1 := by rw [List.getElem?_map, h0]; rfl
    rw [HLV.out, hget] at h1
    exact (Option.some.inj h1).symm
  obtain ⟨vb, fo, fc⟩ := v
  have hyy : vb = b := hyy
  subst hyy
  have HG : Aside (x.bks[k]? = some vb) := hget
  have HST : Aside (vb.state ≠ 3) := hst
  have d11 : w1.cell? ⟨w.heap.size, 11, none⟩ = some (.slice a.ao x.bks.length a.cap) := HX1.out.cell 11
  rw [hao2] at d11
  have hkl2 : (k : Int) < x.bks.length := by omega
  have hx1 : w.heap.size < w1.heap.size := HX1.out.lt
  have hx2 : w.heap.size + 1 < w1.heap.size := HZ1.out.lt
  have HAO : Aside (a.ao = some ⟨b2, o2, none⟩) := hao2
  have HENT : Aside (∀ U, Below w0.heap.size w0 U → Fo.EntsAt U fo fc vb.fol) := fun U hU => SlAt.below Fo.REnt.mono (HLE.out.ents _ HVM.out) hU
  have HF0 : Aside (Fo.P.folE vb.fol = 0) := (bk_ok (HBK.out vb (List.mem_of_getElem? HG.out))).2.2.2.2.2.2.2.2
  clear hget hid hst hd2 hfy2 hao2 d11
  obtain ⟨d0, d1, d2, d3, d4, d5, d6, d7, d8, d9, d10, d11, d12⟩ := SRow.box HX1.out
  rw [HAO.out] at d11
  go_wp2
  refine wp_region_before (L := 13) (S := fun u : World => u.cell? ⟨w.heap.size, 0, none⟩ = some (.int .i64 x.s.legs) ∧ u.cell? ⟨w.heap.size, 1, none⟩ = some (.int .i64 x.s.souls) ∧ u.cell? ⟨w.heap.size, 2, none⟩ = some (.slice a.v.cao x.s.cs.length a.v.cc) ∧ u.cell? ⟨w.heap.size, 3, none⟩ = some (.slice a.v.bao x.s.bs.length a.v.bc) ∧ u.cell? ⟨w.heap.size, 4, none⟩ = some (.slice a.lo x.L.length a.lc) ∧ u.cell? ⟨w.heap.size, 5, none⟩ = some (.int .i64 x.al) ∧ u.cell? ⟨w.heap.size, 6, none⟩ = some (.int .i64 x.th) ∧ u.cell? ⟨w.heap.size, 7, none⟩ = some (.slice a.bo x.B.length a.bc) ∧ u.cell? ⟨w.heap.size, 8, none⟩ = some (.int .i64 x.dn) ∧ u.cell? ⟨w.heap.size, 9, none⟩ = some (.int .i64 x.day) ∧ u.cell? ⟨w.heap.size, 10, none⟩ = some (.int .i64 x.lvs) ∧ u.cell? ⟨w.heap.size, 11, none⟩ = some (.slice (some ⟨b2, o2, none⟩) x.bks.length a.cap) ∧ u.cell? ⟨w.heap.size, 12, none⟩ = some (.bool x.cl) ∧ u.cell? ⟨b2, o2 + k * 11, none⟩ = some (.int .i64 vb.id) ∧ u.cell? ⟨b2, o2 + k * 11 + 1, none⟩ = some (.int .i64 vb.kind) ∧ u.cell? ⟨b2, o2 + k * 11 + 2, none⟩ = some (.int .i64 vb.state) ∧ u.cell? ⟨b2, o2 + k * 11 + 3, none⟩ = some (.int .i64 vb.guests) ∧ u.cell? ⟨b2, o2 + k * 11 + 4, none⟩ = some (.bool vb.level) ∧ u.cell? ⟨b2, o2 + k * 11 + 5, none⟩ = some (.int .i64 vb.cabin) ∧ u.cell? ⟨b2, o2 + k * 11 + 6, none⟩ = some (.int .i64 vb.cat) ∧ u.cell? ⟨b2, o2 + k * 11 + 7, none⟩ = some (.int .i64 vb.frm) ∧ u.cell? ⟨b2, o2 + k * 11 + 8, none⟩ = some (.int .i64 vb.to) ∧ u.cell? ⟨b2, o2 + k * 11 + 9, none⟩ = some (.int .i64 vb.til) ∧ u.cell? ⟨b2, o2 + k * 11 + 10, none⟩ = some (.slice fo vb.fol.length fc)) (by kernel_rfl) (fun hset => ?_)
  have hS : (fun u : World => u.cell? ⟨w.heap.size, 0, none⟩ = some (.int .i64 x.s.legs) ∧ u.cell? ⟨w.heap.size, 1, none⟩ = some (.int .i64 x.s.souls) ∧ u.cell? ⟨w.heap.size, 2, none⟩ = some (.slice a.v.cao x.s.cs.length a.v.cc) ∧ u.cell? ⟨w.heap.size, 3, none⟩ = some (.slice a.v.bao x.s.bs.length a.v.bc) ∧ u.cell? ⟨w.heap.size, 4, none⟩ = some (.slice a.lo x.L.length a.lc) ∧ u.cell? ⟨w.heap.size, 5, none⟩ = some (.int .i64 x.al) ∧ u.cell? ⟨w.heap.size, 6, none⟩ = some (.int .i64 x.th) ∧ u.cell? ⟨w.heap.size, 7, none⟩ = some (.slice a.bo x.B.length a.bc) ∧ u.cell? ⟨w.heap.size, 8, none⟩ = some (.int .i64 x.dn) ∧ u.cell? ⟨w.heap.size, 9, none⟩ = some (.int .i64 x.day) ∧ u.cell? ⟨w.heap.size, 10, none⟩ = some (.int .i64 x.lvs) ∧ u.cell? ⟨w.heap.size, 11, none⟩ = some (.slice (some ⟨b2, o2, none⟩) x.bks.length a.cap) ∧ u.cell? ⟨w.heap.size, 12, none⟩ = some (.bool x.cl) ∧ u.cell? ⟨b2, o2 + k * 11, none⟩ = some (.int .i64 vb.id) ∧ u.cell? ⟨b2, o2 + k * 11 + 1, none⟩ = some (.int .i64 vb.kind) ∧ u.cell? ⟨b2, o2 + k * 11 + 2, none⟩ = some (.int .i64 vb.state) ∧ u.cell? ⟨b2, o2 + k * 11 + 3, none⟩ = some (.int .i64 vb.guests) ∧ u.cell? ⟨b2, o2 + k * 11 + 4, none⟩ = some (.bool vb.level) ∧ u.cell? ⟨b2, o2 + k * 11 + 5, none⟩ = some (.int .i64 vb.cabin) ∧ u.cell? ⟨b2, o2 + k * 11 + 6, none⟩ = some (.int .i64 vb.cat) ∧ u.cell? ⟨b2, o2 + k * 11 + 7, none⟩ = some (.int .i64 vb.frm) ∧ u.cell? ⟨b2, o2 + k * 11 + 8, none⟩ = some (.int .i64 vb.to) ∧ u.cell? ⟨b2, o2 + k * 11 + 9, none⟩ = some (.int .i64 vb.til) ∧ u.cell? ⟨b2, o2 + k * 11 + 10, none⟩ = some (.slice fo vb.fol.length fc)) { w1 with drawn := w1.drawn + 1 } := ⟨d0, d1, d2, d3, d4, d5, d6, d7, d8, d9, d10, d11, d12, y0, y1, y2, y3, y4, y5, y6, y7, y8, y9, y10⟩
  refine wpAnyB_put (i := 0) (n := 40) (d := (some 16)) (v := ?_) hset rfl rfl (by kernel_rfl) (by kernel_rfl) (by kernel_rfl) (by kernel_rfl) (by decide) (fun _ _ _ h => h) (Or.inl ⟨by rfl, ?_⟩) hS (fun hset => ?_)
  rotate_left
  · (intro w hSw; (try dsimp only at hSw); go_simp; try with_reducible rfl)
  simp only [Act.put, List.setIfInBounds_toArray, List.set_cons_zero, List.set_cons_succ, List.getElem_toArray, List.getElem_cons_succ, List.getElem_cons_zero]
  refine wpAnyB_put0 (i := 1) (d := (some 17)) (v := ?_) hset rfl rfl (by kernel_rfl) (by kernel_rfl) (by kernel_rfl) (by decide) (fun _ _ _ h => h) (Or.inl ⟨by rfl, ?_⟩) (fun _ => hS) (fun hset => ?_)
  rotate_left
  · (intro w; go_simp; try with_reducible rfl)
  simp only [Act.put, List.setIfInBounds_toArray, List.set_cons_zero, List.set_cons_succ, List.getElem_toArray, List.getElem_cons_succ, List.getElem_cons_zero]
  refine wpAnyB_put (i := 2) (n := 40) (d := (some 18)) (v := ?_) hset rfl rfl (by kernel_rfl) (by kernel_rfl) (by kernel_rfl) (by kernel_rfl) (by decide) (fun _ _ _ h => h) (Or.inl ⟨by rfl, ?_⟩) hS (fun hset => ?_)
  rotate_left
  · (intro w hSw; (try dsimp only at hSw); go_simp; try with_reducible rfl)
  simp only [Act.put, List.setIfInBounds_toArray, List.set_cons_zero, List.set_cons_succ, List.getElem_toArray, List.getElem_cons_succ, List.getElem_cons_zero]
  refine wpAnyB_put0 (i := 3) (d := (some 19)) (v := ?_) hset rfl rfl (by kernel_rfl) (by kernel_rfl) (by kernel_rfl) (by decide) (fun _ _ _ h => h) (Or.inl ⟨by rfl, ?_⟩) (fun _ => hS) (fun hset => ?_)
  rotate_left
  · (intro w; go_simp; try with_reducible rfl)
  simp only [Act.put, List.setIfInBounds_toArray, List.set_cons_zero, List.set_cons_succ, List.getElem_toArray, List.getElem_cons_succ, List.getElem_cons_zero]
  refine wpAnyB_put0 (i := 4) (d := (some 20)) (v := ?_) hset rfl rfl (by kernel_rfl) (by kernel_rfl) (by kernel_rfl) (by decide) (fun _ _ _ h => h) (Or.inl ⟨by rfl, ?_⟩) (fun _ => hS) (fun hset => ?_)
  rotate_left
  · (intro w; go_simp; try with_reducible rfl)
  simp only [Act.put, List.setIfInBounds_toArray, List.set_cons_zero, List.set_cons_succ, List.getElem_toArray, List.getElem_cons_succ, List.getElem_cons_zero]
  refine wpAnyB_put (i := 5) (n := 40) (d := (some 21)) (v := ?_) hset rfl rfl (by kernel_rfl) (by kernel_rfl) (by kernel_rfl) (by kernel_rfl) (by decide) (fun _ _ _ h => h) (Or.inl ⟨by rfl, ?_⟩) hS (fun hset => ?_)
  rotate_left
  · (intro w hSw; (try dsimp only at hSw); go_simp; try with_reducible rfl)
  simp only [Act.put, List.setIfInBounds_toArray, List.set_cons_zero, List.set_cons_succ, List.getElem_toArray, List.getElem_cons_succ, List.getElem_cons_zero]
  refine wpAnyB_put0 (i := 6) (d := (some 22)) (v := ?_) hset rfl rfl (by kernel_rfl) (by kernel_rfl) (by kernel_rfl) (by decide) (fun _ _ _ h => h) (Or.inl ⟨by rfl, ?_⟩) (fun _ => hS) (fun hset => ?_)
  rotate_left
  · (intro w; go_simp; try with_reducible rfl)
  simp only [Act.put, List.setIfInBounds_toArray, List.set_cons_zero, List.set_cons_succ, List.getElem_toArray, List.getElem_cons_succ, List.getElem_cons_zero]
  refine wpAnyB_put (i := 7) (n := 40) (d := (some 23)) (v := ?_) hset rfl rfl (by kernel_rfl) (by kernel_rfl) (by kernel_rfl) (by kernel_rfl) (by decide) (fun _ _ _ h => h) (Or.inl ⟨by rfl, ?_⟩) hS (fun hset => ?_)
  rotate_left
  · (intro w hSw; (try dsimp only at hSw); go_simp; try with_reducible rfl)
  simp only [Act.put, List.setIfInBounds_toArray, List.set_cons_zero, List.set_cons_succ, List.getElem_toArray, List.getElem_cons_succ, List.getElem_cons_zero]
  refine wpAnyB_steps (rs := [8, 12]) (by kernel_rfl) (by simp) ?_
  refine StepsB.ahead rfl hset (by kernel_rfl) (fun hset K hK => ?way2) (StepsB.ahead rfl hset (by kernel_rfl) (fun hset K hK => ?way1) StepsB.nil)
  case' way2 =>
    simp only [List.getElem_toArray, List.getElem_cons_succ, List.getElem_cons_zero]
    go_simp
    rw [← HAO.out]
    refine (goneOf_any x a vb fo fc x.day _ (HS.out.below (bvia hB1 (by first | exact dr _ | exact bvia (dr _) (al _ _)))) (HENT.out _ (bvia HB00.out (bvia hB1 (by first | exact dr _ | exact bvia (dr _) (al _ _))))) HF0.out HBB.out HDL.out.1 HDL.out.2).mono ?_
    rintro e w5 ⟨b', fo', fc', rfl, hb5', hbad, hgood⟩
    have hb5 : Below w1.heap.size w1 w5 := bvia (dr _) hb5'
    refine hK.out _ _ ?_ (fun hS => ?_)
    · exact ⟨cellIn hb5 d0, cellIn hb5 d1, cellIn hb5 d2, cellIn hb5 d3, cellIn hb5 d4, cellIn hb5 d5, cellIn hb5 d6, cellIn hb5 d7, cellIn hb5 d8, cellIn hb5 d9, cellIn hb5 d10, cellIn hb5 d11, cellIn hb5 d12, cellIn hb5 y0, cellIn hb5 y1, cellIn hb5 y2, cellIn hb5 y3, cellIn hb5 y4, cellIn hb5 y5, cellIn hb5 y6, cellIn hb5 y7, cellIn hb5 y8, cellIn hb5 y9, cellIn hb5 y10⟩
    clear hK K
    try simp only [Act.put, List.setIfInBounds_toArray, List.set_cons_zero, List.set_cons_succ, List.getElem_toArray, List.getElem_cons_succ, List.getElem_cons_zero]
    refine wpAnyB_put0 (i := 9) (d := (some 15)) (v := ?_) hset rfl rfl (by kernel_rfl) (by kernel_rfl) (by kernel_rfl) (by decide) (fun _ _ _ h => h) (Or.inl ⟨by rfl, ?_⟩) (fun _ => hS) (fun hset => ?_)
    rotate_left
    · (intro w; go_simp; try with_reducible rfl)
    simp only [Act.put, List.setIfInBounds_toArray, List.set_cons_zero, List.set_cons_succ, List.getElem_toArray, List.getElem_cons_succ, List.getElem_cons_zero]
    refine wpAnyB_put0 (i := 10) (d := (some 25)) (v := ?_) hset rfl rfl (by kernel_rfl) (by kernel_rfl) (by kernel_rfl) (by decide) (fun _ _ _ h => h) (Or.inl ⟨by rfl, ?_⟩) (fun _ => hS) (fun hset => ?_)
    rotate_left
    · (intro w; go_simp; try with_reducible rfl)
    simp only [Act.put, List.setIfInBounds_toArray, List.set_cons_zero, List.set_cons_succ, List.getElem_toArray, List.getElem_cons_succ, List.getElem_cons_zero]
    refine wpAnyB_put0 (i := 11) (d := (some 26)) (v := ?_) hset rfl rfl (by kernel_rfl) (by kernel_rfl) (by kernel_rfl) (by decide) (fun _ _ _ h => h) (Or.inl ⟨by rfl, ?_⟩) (fun _ => hS) (fun hset => ?_)
    rotate_left
    · (intro w; go_simp; try with_reducible rfl)
    simp only [Act.put, List.setIfInBounds_toArray, List.set_cons_zero, List.set_cons_succ, List.getElem_toArray, List.getElem_cons_succ, List.getElem_cons_zero]
    refine wpAnyB_steps (rs := [12]) (by kernel_rfl) (by simp) ?_
    refine StepsB.ahead rfl hset (by kernel_rfl) (fun hset K hK => ?_) StepsB.nil
    simp only [List.getElem_toArray, List.getElem_cons_succ, List.getElem_cons_zero]
    go_simp
    refine hK.out _ _ ?_ (fun hS => ?_)
    · exact ⟨cellIn (bvia hb5 (al _ _)) d0, cellIn (bvia hb5 (al _ _)) d1, cellIn (bvia hb5 (al _ _)) d2, cellIn (bvia hb5 (al _ _)) d3, cellIn (bvia hb5 (al _ _)) d4, cellIn (bvia hb5 (al _ _)) d5, cellIn (bvia hb5 (al _ _)) d6, cellIn (bvia hb5 (al _ _)) d7, cellIn (bvia hb5 (al _ _)) d8, cellIn (bvia hb5 (al _ _)) d9, cellIn (bvia hb5 (al _ _)) d10, cellIn (bvia hb5 (al _ _)) d11, cellIn (bvia hb5 (al _ _)) d12, cellIn (bvia hb5 (al _ _)) y0, cellIn (bvia hb5 (al _ _)) y1, cellIn (bvia hb5 (al _ _)) y2, cellIn (bvia hb5 (al _ _)) y3, cellIn (bvia hb5 (al _ _)) y4, cellIn (bvia hb5 (al _ _)) y5, cellIn (bvia hb5 (al _ _)) y6, cellIn (bvia hb5 (al _ _)) y7, cellIn (bvia hb5 (al _ _)) y8, cellIn (bvia hb5 (al _ _)) y9, cellIn (bvia hb5 (al _ _)) y10⟩
    clear hK K
    try simp only [Act.put, List.setIfInBounds_toArray, List.set_cons_zero, List.set_cons_succ, List.getElem_toArray, List.getElem_cons_succ, List.getElem_cons_zero]
    refine wpAnyB_steps (rs := [13]) (by kernel_rfl) (by simp) ?_
    refine StepsB.behind rfl hset (by kernel_rfl) (by kernel_rfl) (fun hset K hK => ?_) StepsB.nil
    refine step_of' (by rfl) (wp_stC 37 _ _ (by rfl) _ C.bk0 (C.bk b' fo' fc') Tryz.sizeBg (by rfl) (by rfl) (RowIs.new w5 _ _) rfl (all_one rfl) ?_)
    intro w9 hr9 gr9
    refine hK.out _ _ ?_
    clear hK K
    try simp only [Act.put, List.setIfInBounds_toArray, List.set_cons_zero, List.set_cons_succ, List.getElem_toArray, List.getElem_cons_succ, List.getElem_cons_zero]
    refine wpAnyB_put0 (i := 14) (d := (some 8)) (v := ?_) hset rfl rfl (by kernel_rfl) (by kernel_rfl) (by kernel_rfl) (by decide) (fun _ _ _ h => h) (Or.inl ⟨by rfl, ?_⟩) (fun h => absurd h (by decide)) (fun hset => ?_)
    rotate_left
    · (intro w; go_simp; try with_reducible rfl)
    simp only [Act.put, List.setIfInBounds_toArray, List.set_cons_zero, List.set_cons_succ, List.getElem_toArray, List.getElem_cons_succ, List.getElem_cons_zero]
  case' way1 =>
    simp only [List.getElem_toArray, List.getElem_cons_succ, List.getElem_cons_zero]
    go_simp
    refine hK.out _ _ ?_ (fun hS => ?_)
    · exact ⟨cellIn (bvia (dr _) (al _ _)) d0, cellIn (bvia (dr _) (al _ _)) d1, cellIn (bvia (dr _) (al _ _)) d2, cellIn (bvia (dr _) (al _ _)) d3, cellIn (bvia (dr _) (al _ _)) d4, cellIn (bvia (dr _) (al _ _)) d5, cellIn (bvia (dr _) (al _ _)) d6, cellIn (bvia (dr _) (al _ _)) d7, cellIn (bvia (dr _) (al _ _)) d8, cellIn (bvia (dr _) (al _ _)) d9, cellIn (bvia (dr _) (al _ _)) d10, cellIn (bvia (dr _) (al _ _)) d11, cellIn (bvia (dr _) (al _ _)) d12, cellIn (bvia (dr _) (al _ _)) y0, cellIn (bvia (dr _) (al _ _)) y1, cellIn (bvia (dr _) (al _ _)) y2, cellIn (bvia (dr _) (al _ _)) y3, cellIn (bvia (dr _) (al _ _)) y4, cellIn (bvia (dr _) (al _ _)) y5, cellIn (bvia (dr _) (al _ _)) y6, cellIn (bvia (dr _) (al _ _)) y7, cellIn (bvia (dr _) (al _ _)) y8, cellIn (bvia (dr _) (al _ _)) y9, cellIn (bvia (dr _) (al _ _)) y10⟩
    clear hK K
    try simp only [Act.put, List.setIfInBounds_toArray, List.set_cons_zero, List.set_cons_succ, List.getElem_toArray, List.getElem_cons_succ, List.getElem_cons_zero]
    refine wpAnyB_steps (rs := [8]) (by kernel_rfl) (by simp) ?_
    refine StepsB.ahead rfl hset (by kernel_rfl) (fun hset K hK => ?_) StepsB.nil
    simp only [List.getElem_toArray, List.getElem_cons_succ, List.getElem_cons_zero]
    go_simp
    rw [← HAO.out]
    refine (goneOf_any x a vb fo fc x.day _ (HS.out.below (bvia hB1 (by first | exact dr _ | exact bvia (dr _) (al _ _)))) (HENT.out _ (bvia HB00.out (bvia hB1 (by first | exact dr _ | exact bvia (dr _) (al _ _))))) HF0.out HBB.out HDL.out.1 HDL.out.2).mono ?_
    rintro e w5 ⟨b', fo', fc', rfl, hb5', hbad, hgood⟩
    have hb5 : Below w1.heap.size w1 w5 := bvia (bvia (dr _) (al _ _)) hb5'
    have hZB : RowIs w5 w1.heap.size C.bk0 := (RowIs.new w1.drew C.bk0 37).below hb5'
    refine hK.out _ _ ?_ (fun hS => ?_)
    · exact ⟨cellIn hb5 d0, cellIn hb5 d1, cellIn hb5 d2, cellIn hb5 d3, cellIn hb5 d4, cellIn hb5 d5, cellIn hb5 d6, cellIn hb5 d7, cellIn hb5 d8, cellIn hb5 d9, cellIn hb5 d10, cellIn hb5 d11, cellIn hb5 d12, cellIn hb5 y0, cellIn hb5 y1, cellIn hb5 y2, cellIn hb5 y3, cellIn hb5 y4, cellIn hb5 y5, cellIn hb5 y6, cellIn hb5 y7, cellIn hb5 y8, cellIn hb5 y9, cellIn hb5 y10⟩
    clear hK K
    try simp only [Act.put, List.setIfInBounds_toArray, List.set_cons_zero, List.set_cons_succ, List.getElem_toArray, List.getElem_cons_succ, List.getElem_cons_zero]
    refine wpAnyB_put0 (i := 9) (d := (some 15)) (v := ?_) hset rfl rfl (by kernel_rfl) (by kernel_rfl) (by kernel_rfl) (by decide) (fun _ _ _ h => h) (Or.inl ⟨by rfl, ?_⟩) (fun _ => hS) (fun hset => ?_)
    rotate_left
    · (intro w; go_simp; try with_reducible rfl)
    simp only [Act.put, List.setIfInBounds_toArray, List.set_cons_zero, List.set_cons_succ, List.getElem_toArray, List.getElem_cons_succ, List.getElem_cons_zero]
    refine wpAnyB_put0 (i := 10) (d := (some 25)) (v := ?_) hset rfl rfl (by kernel_rfl) (by kernel_rfl) (by kernel_rfl) (by decide) (fun _ _ _ h => h) (Or.inl ⟨by rfl, ?_⟩) (fun _ => hS) (fun hset => ?_)
    rotate_left
    · (intro w; go_simp; try with_reducible rfl)
    simp only [Act.put, List.setIfInBounds_toArray, List.set_cons_zero, List.set_cons_succ, List.getElem_toArray, List.getElem_cons_succ, List.getElem_cons_zero]
    refine wpAnyB_put0 (i := 11) (d := (some 26)) (v := ?_) hset rfl rfl (by kernel_rfl) (by kernel_rfl) (by kernel_rfl) (by decide) (fun _ _ _ h => h) (Or.inl ⟨by rfl, ?_⟩) (fun _ => hS) (fun hset => ?_)
    rotate_left
    · (intro w; go_simp; try with_reducible rfl)
    simp only [Act.put, List.setIfInBounds_toArray, List.set_cons_zero, List.set_cons_succ, List.getElem_toArray, List.getElem_cons_succ, List.getElem_cons_zero]
    refine wpAnyB_steps (rs := [13]) (by kernel_rfl) (by simp) ?_
    refine StepsB.behind rfl hset (by kernel_rfl) (by kernel_rfl) (fun hset K hK => ?_) StepsB.nil
    refine step_of' (by rfl) (wp_stC 37 _ _ (by rfl) _ C.bk0 (C.bk b' fo' fc') Tryz.sizeBg (by rfl) (by rfl) hZB rfl (all_one rfl) ?_)
    intro w9 hr9 gr9
    refine hK.out _ _ ?_
    clear hK K
    try simp only [Act.put, List.setIfInBounds_toArray, List.set_cons_zero, List.set_cons_succ, List.getElem_toArray, List.getElem_cons_succ, List.getElem_cons_zero]
    refine wpAnyB_put0 (i := 14) (d := (some 8)) (v := ?_) hset rfl rfl (by kernel_rfl) (by kernel_rfl) (by kernel_rfl) (by decide) (fun _ _ _ h => h) (Or.inl ⟨by rfl, ?_⟩) (fun h => absurd h (by decide)) (fun hset => ?_)
    rotate_left
    · (intro w; go_simp; try with_reducible rfl)
    simp only [Act.put, List.setIfInBounds_toArray, List.set_cons_zero, List.set_cons_succ, List.getElem_toArray, List.getElem_cons_succ, List.getElem_cons_zero]
  all_goals refine wpAnyB_done (by kernel_rfl) ?_ _
  all_goals
    have HWB : Aside (Below w1.heap.size w1 w9) := by
      first
        | exact below_gr (bvia hb5 (al _ _)) (bvia hb5 (al _ _)).size gr9 hb5.size
        | exact below_gr hb5 hb5.size gr9 (Nat.le_refl _)
    have HOG : Aside (P.goE x vb x.day = 0 → Fo.OwnN w9 w1.heap.size (.slice fo' b'.fol.length fc') b'.fol) := fun h => by
      obtain ⟨_, ho⟩ := hgood h
      first
        | exact Fo.OwnC.weaken (OwnC.apart (OwnC.below ho (al w5 _)) gr9 (fun r e hv => by cases e; have := (ho.lt _ hv).2; omega)) (by simp)
        | exact Fo.OwnC.weaken (OwnC.apart ho gr9 (fun r e hv => by cases e; have := (ho.lt _ hv).1; simp at this; omega)) (by simp)
    have HBAD : Aside (¬ P.goE x vb x.day = 0 → b' = vb ∧ fo' = fo ∧ fc' = fc) := hbad
    have HGB : Aside (P.goE x vb x.day = 0 → b' = P.goneB vb (P.goL x vb x.day)) := fun h => (hgood h).1
    have HX9 : Aside (SRow w9 w.heap.size x a) := HX1.out.below HWB.out
    have HZ9 : Aside (RowIs w9 (w.heap.size + 1) C.zs) := HZ1.out.below HWB.out
    have hB9 := bvia hB1 HWB.out
    have HB9 : Aside (Below w.heap.size w w9) := hB9
    have HW1 : Aside (w.heap.size ≤ w1.heap.size) := hB1.size
    have HCN : Aside (P.cnE x vb = P.goE x vb x.day ∧ (P.cnE x vb = 0 → P.cnB x vb = P.goneB vb (P.goL x vb x.day))) := gone_cn HE0.out (List.mem_of_getElem? HG.out) HST.out
    have HRR : Aside (RowIs w9 _ (C.bk b' fo' fc')) := hr9
    obtain ⟨z0, z1, z2, z3, z4, z5, z6, z7, z8, z9, z10⟩ := RowIs.bbox hr9
    try clear hZB
    clear d0 d1 d2 d3 d4 d5 d6 d7 d8 d9 d10 d11 d12 y0 y1 y2 y3 y4 y5 y6 y7 y8 y9 y10 hb5 hb5' gr9 hr9 hgood hbad hset
    cases hz : (P.goE x vb x.day != 0)
    rotate_left
    · have HNZ : Aside (¬ P.goE x vb x.day = 0) := by show ¬ _; simpa using hz
      clear z0 z1 z2 z3 z4 z5 z6 z7 z8 z9 z10
      go_wp2_with ((with_reducible refine wpList_stO (w.heap.size + 1) C.zs (C.sail P.zeroS A.zeroS) ?_ ?_ ?_ HZ9.out ?_ ?_ ?_); exact Tryz.sizeSail; rfl; rfl; rfl; exact sail_one _ _; intro v9 hr9 hg9)
      exact bodyPost_ret (res2 rfl hr9 _ rfl rfl Tryz.underlying32 rfl Tryz.sizeSail) rfl ⟨P.goE x vb x.day, P.zeroS, A.zeroS, rfl, .inr ⟨k, vb, HN.out, HG.out, P.goE x vb x.day, vb, ⟨HCN.out.1.symm, fun h => absurd h HNZ.out⟩, .inl ⟨HNZ.out, rfl, rfl⟩⟩, SailTw.zero _ _ _, below_gr hB9 hB9.size hg9 (by omega)⟩
    have HZZ : Aside (P.goE x vb x.day = 0) := by show _ = _; simpa using hz
    clear hB9
    obtain ⟨d0, d1, d2, d3, d4, d5, d6, d7, d8, d9, d10, d11, d12⟩ := SRow.box HX9.out
    have HPL : Aside (SlAt (RC cellsV) 11 w9 a.ao a.cap lv) := BkVsAt.plain (SlAt.below RBkV.mono HLE.out (bvia HB00.out HB9.out))
    go_wp2_with fail
    refine (setBooking_own x a lv k b' fo' fc' w9 HLV.out HPL.out h16 hkl).mono ?_
    rintro e w5 ⟨G, cap, rfl, own5, hb5⟩
    have HO5 : Aside (OwnB w5 w9.heap.size (.slice (some ⟨G, 0, none⟩) x.bks.length cap) (lv.set k (b', fo', fc'))) := own5
    have HF5 : Aside (Fo.OwnN w5 w1.heap.size (.slice fo' b'.fol.length fc') b'.fol) := OwnC.below (HOG.out HZZ.out) hb5
    have HZ5 : Aside (RowIs w5 (w.heap.size + 1) C.zs) := HZ9.out.below hb5
    have hB5 := bvia HB9.out hb5
    have hz9 : w.heap.size + 1 < w9.heap.size := HZ9.out.lt
    have hw1 := HW1.out
    have hx2' : w.heap.size + 1 < w1.heap.size := HZ1.out.lt
    clear d0 d1 d2 d3 d4 d5 d6 d7 d8 d9 d10 d11 d12 z0 z1 z2 z3 z4 z5 z6 z7 z8 z9 z10 own5 hb5
    go_wp2_with ((with_reducible refine wpList_stO (w.heap.size + 1) C.zs (C.sail (P.setB x (x.bks.set k b')) ⟨a.v, a.lo, a.bo, a.lc, a.bc, some ⟨G, 0, none⟩, cap⟩) ?_ ?_ ?_ HZ5.out ?_ ?_ ?_); exact Tryz.sizeSail; rfl; rfl; rfl; exact sail_one _ _; intro v9 hr9 hg9)
    have hB9 := below_gr hB5 hB5.size hg9 (by omega)
    have own9 := OwnC.apart HO5.out hg9 (fun r e hv => by cases e; have := (HO5.out.lt _ hv).1; omega)
    have fol9 := OwnC.apart HF5.out hg9 (fun r e hv => by cases e; have := (HF5.out.lt _ hv).1; omega)
    exact bodyPost_ret (res2 rfl hr9 _ rfl rfl Tryz.underlying32 rfl Tryz.sizeSail) rfl ⟨P.goE x vb x.day, (P.setB x (x.bks.set k b')), ⟨a.v, a.lo, a.bo, a.lc, a.bc, some ⟨G, 0, none⟩, cap⟩, rfl,
      .inr ⟨k, vb, HN.out, HG.out, P.goE x vb x.day, b', ⟨HCN.out.1.symm, fun h => by rw [HGB.out h, HCN.out.2 (HCN.out.1.trans h)]⟩, .inr ⟨HZZ.out, HZZ.out, rfl⟩⟩,
      setB_tw HS0.out HB00.out HLV.out HLE.out own9 (by omega) hB9 (fun U hU => ents_own (OwnC.up fol9 (w' := U) ⟨hU.1.size, fun c h1 h2 => hU.2 c (by omega) h2⟩)), hB9⟩

end Go.Proofs.YtlamhfbdeinkkaeGreat.St
