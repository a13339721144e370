/- The reference: MoveOf. -/
import Derived.Test.YtlamhfbdeinkkaeGreatChAo
import Derived.Test.YtlamhfbdeinkkaeGreatSeBo
namespace Go.Proofs.YtlamhfbdeinkkaeGreat.St
open Go.RowKit Bk
set_option linter.unusedSimpArgs false
set_option linter.unusedVariables false
set_option maxRecDepth 10000

/-- J1: what is wrong with a move, ahead of the room. -/
def P.movE (x : Sail) (b : Bkg) (c : Int) : Int := if b.cabin < 0 then 4 else if c < 0 ∨ (x.s.bs.length : Int) ≤ c then 3 else if c = b.cabin then 6 else P.bkE x.s (P.setC b c)
def P.Moves (x : Sail) (id c r : Int) (y : Sail) : Prop :=
  (P.LiveIs x.bks id (-1) ∧ r = 5 ∧ y = P.zeroS) ∨
  ∃ (k : Nat) (b : Bkg), P.LiveIs x.bks id k ∧ x.bks[k]? = some b ∧
    ((¬ P.movE x b c = 0 ∧ r = P.movE x b c ∧ y = P.zeroS) ∨ (P.movE x b c = 0 ∧ P.Room (P.setB x (x.bks.set k (P.setC b c))) r ∧ ((r = 0 ∧ y = P.setB x (x.bks.set k (P.setC b c))) ∨ (¬ r = 0 ∧ y = P.zeroS))))
theorem Moves.one {x : Sail} {id c r r' : Int} {y y' : Sail} (hr : x.bks.Pairwise (fun a b => a.id < b.id)) (h : P.Moves x id c r y) (h' : P.Moves x id c r' y') : r = r' ∧ y = y' := by
  rcases h with ⟨h1, rfl, rfl⟩ | ⟨k, b, h1, h2, h4⟩ <;> rcases h' with ⟨g1, rfl, rfl⟩ | ⟨k', b', g1, g2, g4⟩
  · exact ⟨rfl, rfl⟩
  · have := LiveIs.one hr h1 g1; omega
  · have := LiveIs.one hr h1 g1; omega
  · have hk := LiveIs.one hr h1 g1
    obtain rfl : k = k' := by omega
    rw [h2] at g2
    obtain rfl := Option.some.inj g2
    rcases h4 with ⟨a1, rfl, rfl⟩ | ⟨a1, a2, a3⟩ <;> rcases g4 with ⟨c1, rfl, rfl⟩ | ⟨c1, c2, c3⟩
    · exact ⟨rfl, rfl⟩
    · exact absurd c1 a1
    · exact absurd a1 c1
    · obtain rfl := Room.one a2 c2
      refine ⟨rfl, ?_⟩
      rcases a3 with ⟨p1, rfl⟩ | ⟨p1, rfl⟩ <;> rcases c3 with ⟨q1, rfl⟩ | ⟨q1, rfl⟩
      · rfl
      · exact absurd p1 q1
      · exact absurd q1 p1
      · rfl

set_option maxHeartbeats 8000000 in
theorem moveOf_any (x : Sail) (a : SailA) (id c : Int) (w0 w : World) (hb00 : Below w0.heap.size w0 w) (hs0 : SailAt w0 x a) (hE : P.SailE x 0) :
    Calls Tryz.prog 26 #[V.sail x a, .int .i64 id, .int .i64 c] w fun e w' => ∃ r y a', e = .returned (.tuple #[V.sail y a', .int .i64 r]) ∧ P.Moves x id c r y ∧ SailTw w0.heap.size w.heap.size w' y a' ∧ Below w.heap.size w w' := by
  have hs : SailAt w x a := hs0.below hb00
  obtain ⟨hp, _, h0, hbk, h16, _⟩ := sail_ok hE
  have H0 : Aside (P.shp x.s = 0) := h0
  have HBK : Aside (∀ b ∈ x.bks, P.bkE x.s b = 0) := hbk
  have hcle := hs.ship.cabs.le
  have hcmx := hs.ship.cabs.max
  unfold maxLen at hcmx
  have hrise := (bksI_rise (pre_zero hp).2.1).2
  have hle := hs.bks.le
  have hmx := hs.bks.max
  unfold maxLen at hmx
  obtain ⟨lv, hlv, hl⟩ := BksAt.pick hs0.bks
  have hln : lv.length = x.bks.length := by rw [← hlv]; simp
  have HS0 : Aside (SailAt w0 x a) := hs0
  have HB00 : Aside (Below w0.heap.size w0 w) := hb00
  have HS : Aside (SailAt w x a) := hs
  have HLV : Aside (lv.map (·.1) = x.bks) := hlv
  have HLE : Aside (BkVsAt w0 a.ao a.cap lv) := hl
  have HLN : Aside (lv.length = x.bks.length) := hln
  have hb0 : Below w.heap.size w ((W.sail w x a).alloc O.zs) := bvia (sail_below w x a) (al _ _)
  have HX0 : Aside (SRow ((W.sail w x a).alloc O.zs) w.heap.size x a) := (RowIs.new w _ _ : SRow (W.sail w x a) w.heap.size x a).below (al _ _)
  have HZ0 : Aside (RowIs ((W.sail w x a).alloc O.zs) (w.heap.size + 1) C.zs) := by
    have := RowIs.new (W.sail w x a) C.zs 32
    rwa [World.size_alloc] at this
  have HR : Aside (x.bks.Pairwise (fun a b => a.id < b.id)) := hrise
  clear h0 hbk hs hs0 hb00 hE hp hrise hlv hl hln
  obtain ⟨d0, d1, d2, d3, d4, d5, d6, d7, d8, d9, d10, d11, d12⟩ := SRow.box HX0.out
  go_enter Tryz.func26, Tryz.ntmps26
  go_wp2_with fail
  refine (liveAt_any x a id _ (HS.out.below hb0) HR.out h16).mono ?_
  rintro e w1 ⟨n, rfl, hn, hb1⟩
  have hB1 := bvia hb0 hb1
  have HX1 : Aside (SRow w1 w.heap.size x a) := HX0.out.below hb1
  have HZ1 : Aside (RowIs w1 (w.heap.size + 1) C.zs) := HZ0.out.below hb1
  have HN : Aside (P.LiveIs x.bks id n) := hn
  clear d0 d1 d2 d3 d4 d5 d6 d7 d8 d9 d10 d11 d12 HX0 HZ0 hb0 hb1
  rcases hn with ⟨k, b, rfl, hget, hid, hst⟩ | ⟨rfl, hno⟩
  rotate_left
  · clear hno
    go_wp2_with ((with_reducible refine wpList_stO (w.heap.size + 1) C.zs (C.sail P.zeroS A.zeroS) ?_ ?_ ?_ HZ1.out ?_ ?_ ?_); exact Tryz.sizeSail; rfl; rfl; rfl; exact sail_one _ _; intro w9 hr9 hg9)
    exact bodyPost_ret (res2 rfl hr9 _ rfl rfl Tryz.underlying32 rfl Tryz.sizeSail) rfl ⟨5, P.zeroS, A.zeroS, rfl, .inl ⟨HN.out, rfl, rfl⟩, SailTw.zero _ _ _, below_gr hB1 hB1.size hg9 (by omega)⟩
  have hkl : k < x.bks.length := (List.getElem?_eq_some_iff.1 hget).1
  obtain ⟨b2, o2, v, hao2, hbw2, hd2, ⟨y0, y1, y2, y3, y4, y5, y6, y7, y8, y9, y10⟩, hfy2⟩ := BkVsAt.get HLE.out (bvia HB00.out hB1) k (by rw [HLN.out]; exact hkl)
  have HVM : Aside (v ∈ lv) := List.mem_of_mem_drop (i := k) (by rw [hd2]; exact List.mem_cons.2 (.inl rfl))
  have hyy : v.1 = b := by
    have h0 : lv[k]? = some v := by
      have := congrArg (fun l => l[0]?) hd2
      simpa using this
    have h1 : (lv.map (·.1))[k]? = some v.1 := by rw [List.getElem?_map, h0]; rfl
    rw [HLV.out, hget] at h1
    exact (Option.some.inj h1).symm
  obtain ⟨vb, fo, fc⟩ := v
  have hyy : vb = b := hyy
  subst hyy
  have HG : Aside (x.bks[k]? = some vb) := hget
  have HST : Aside (vb.state ≠ 3) := hst
  have d11 : w1.cell? ⟨w.heap.size, 11, none⟩ = some (.slice a.ao x.bks.length a.cap) := HX1.out.cell 11
  rw [hao2] at d11
  have hkl2 : (k : Int) < x.bks.length := by omega
  have hx1 : w.heap.size < w1.heap.size := HX1.out.lt
  have hx2 : w.heap.size + 1 < w1.heap.size := HZ1.out.lt
  have HBA : Aside (Below w1.heap.size w1 (W.bk w1 vb fo fc)) := bk_below w1 vb fo fc
  have HAO : Aside (a.ao = some ⟨b2, o2, none⟩) := hao2
  clear hget hid hst hd2 hfy2 hao2
  have HZ2 : Aside (RowIs (W.bk w1 vb fo fc) (w.heap.size + 1) C.zs) := HZ1.out.below HBA.out
  have hB2 := bvia hB1 HBA.out
  have d3 : w1.cell? ⟨w.heap.size, 3, none⟩ = some (.slice a.v.bao x.s.bs.length a.v.bc) := HX1.out.cell 3
  by_cases hcb : vb.cabin < 0
  · have HME : Aside (P.movE x vb c = 4) := by show _ = _; rw [P.movE, if_pos hcb]
    go_wp2_with ((with_reducible refine wpList_stO (w.heap.size + 1) C.zs (C.sail P.zeroS A.zeroS) ?_ ?_ ?_ HZ2.out ?_ ?_ ?_); exact Tryz.sizeSail; rfl; rfl; rfl; exact sail_one _ _; intro w9 hr9 hg9)
    exact bodyPost_ret (res2 rfl hr9 _ rfl rfl Tryz.underlying32 rfl Tryz.sizeSail) rfl ⟨4, P.zeroS, A.zeroS, rfl, .inr ⟨k, vb, HN.out, HG.out, .inl ⟨by rw [HME.out]; decide, HME.out.symm, rfl⟩⟩, SailTw.zero _ _ _, below_gr hB2 hB2.size hg9 (by omega)⟩
  by_cases hc0 : c < 0
  · have HME : Aside (P.movE x vb c = 3) := by show _ = _; rw [P.movE, if_neg hcb, if_pos (.inl hc0)]
    go_wp2_with ((with_reducible refine wpList_stO (w.heap.size + 1) C.zs (C.sail P.zeroS A.zeroS) ?_ ?_ ?_ HZ2.out ?_ ?_ ?_); exact Tryz.sizeSail; rfl; rfl; rfl; exact sail_one _ _; intro w9 hr9 hg9)
    exact bodyPost_ret (res2 rfl hr9 _ rfl rfl Tryz.underlying32 rfl Tryz.sizeSail) rfl ⟨3, P.zeroS, A.zeroS, rfl, .inr ⟨k, vb, HN.out, HG.out, .inl ⟨by rw [HME.out]; decide, HME.out.symm, rfl⟩⟩, SailTw.zero _ _ _, below_gr hB2 hB2.size hg9 (by omega)⟩
  by_cases hc1 : (x.s.bs.length : Int) ≤ c
  · have HME : Aside (P.movE x vb c = 3) := by show _ = _; rw [P.movE, if_neg hcb, if_pos (.inr hc1)]
    go_wp2_with ((with_reducible refine wpList_stO (w.heap.size + 1) C.zs (C.sail P.zeroS A.zeroS) ?_ ?_ ?_ HZ2.out ?_ ?_ ?_); exact Tryz.sizeSail; rfl; rfl; rfl; exact sail_one _ _; intro w9 hr9 hg9)
    exact bodyPost_ret (res2 rfl hr9 _ rfl rfl Tryz.underlying32 rfl Tryz.sizeSail) rfl ⟨3, P.zeroS, A.zeroS, rfl, .inr ⟨k, vb, HN.out, HG.out, .inl ⟨by rw [HME.out]; decide, HME.out.symm, rfl⟩⟩, SailTw.zero _ _ _, below_gr hB2 hB2.size hg9 (by omega)⟩
  have HC01 : Aside (¬ (c < 0 ∨ (x.s.bs.length : Int) ≤ c)) := fun h => h.elim hc0 hc1
  have HCB : Aside (¬ vb.cabin < 0) := hcb
  cases hce : (c == vb.cabin)
  rotate_left
  · have HME : Aside (P.movE x vb c = 6) := by show _ = _; rw [P.movE, if_neg HCB.out, if_neg HC01.out, if_pos (by simpa using hce)]
    go_wp2_with ((with_reducible refine wpList_stO (w.heap.size + 1) C.zs (C.sail P.zeroS A.zeroS) ?_ ?_ ?_ HZ2.out ?_ ?_ ?_); exact Tryz.sizeSail; rfl; rfl; rfl; exact sail_one _ _; intro w9 hr9 hg9)
    exact bodyPost_ret (res2 rfl hr9 _ rfl rfl Tryz.underlying32 rfl Tryz.sizeSail) rfl ⟨6, P.zeroS, A.zeroS, rfl, .inr ⟨k, vb, HN.out, HG.out, .inl ⟨by rw [HME.out]; decide, HME.out.symm, rfl⟩⟩, SailTw.zero _ _ _, below_gr hB2 hB2.size hg9 (by omega)⟩
  have HCE : Aside (¬ c = vb.cabin) := by show ¬ _; simpa using hce
  have HMB : Aside (P.movE x vb c = P.bkE x.s (P.setC vb c)) := by show _ = _; rw [P.movE, if_neg hcb, if_neg HC01.out, if_neg HCE.out]
  have HBB : Aside (Below w1.heap.size w1 (W.bk w1 (P.setC vb c) fo fc)) := bk_below w1 (P.setC vb c) fo fc
  have HX3 : Aside (SRow (W.bk w1 (P.setC vb c) fo fc) w.heap.size x a) := HX1.out.below HBB.out
  have HY3 : Aside (RowIs (W.bk w1 (P.setC vb c) fo fc) w1.heap.size (C.bk (P.setC vb c) fo fc)) := RowIs.new w1 _ _
  have HZ3 : Aside (RowIs (W.bk w1 (P.setC vb c) fo fc) (w.heap.size + 1) C.zs) := HZ1.out.below HBB.out
  have hB3 := bvia hB1 HBB.out
  have HENT : Aside (∀ U, Below w0.heap.size w0 U → Fo.EntsAt U fo fc vb.fol) := fun U hU => SlAt.below Fo.REnt.mono (HLE.out.ents _ HVM.out) hU
  have HB3 : Aside (Below w.heap.size w (W.bk w1 (P.setC vb c) fo fc)) := hB3
  clear d3 HBA hB2 HZ2
  obtain ⟨d0, d1, d2, d3, d4, d5, d6, d7, d8, d9, d10, d11, d12⟩ := SRow.box HX1.out
  rw [HAO.out] at d11
  clear HX1 HZ1 hB1 hB3
  go_wp2_with fail
  refine (refBk_any x.s a.v (P.setC vb c) fo fc (W.bk w1 (P.setC vb c) fo fc) (HS.out.below HB3.out).ship (HENT.out _ (bvia HB00.out HB3.out)) H0.out).mono ?_
  rintro e w4 ⟨rfl, hb4⟩
  have HX4 : Aside (SRow w4 w.heap.size x a) := HX3.out.below hb4
  have HY4 : Aside (RowIs w4 w1.heap.size (C.bk (P.setC vb c) fo fc)) := HY3.out.below hb4
  have HZ4 : Aside (RowIs w4 (w.heap.size + 1) C.zs) := HZ3.out.below hb4
  have HB4 : Aside (Below w.heap.size w w4) := bvia HB3.out hb4
  clear d0 d1 d2 d3 d4 d5 d6 d7 d8 d9 d10 d11 d12 y0 y1 y2 y3 y4 y5 y6 y7 y8 y9 y10 HX3 HY3 HZ3 hb4 hcb hc0 hc1 hce
  obtain ⟨d0, d1, d2, d3, d4, d5, d6, d7, d8, d9, d10, d11, d12⟩ := SRow.box HX4.out
  obtain ⟨z0, z1, z2, z3, z4, z5, z6, z7, z8, z9, z10⟩ := HY4.out.bbox
  have HPL : Aside (SlAt (RC cellsV) 11 w4 a.ao a.cap lv) := BkVsAt.plain (SlAt.below RBkV.mono HLE.out (bvia HB00.out HB4.out))
  go_wp2_with fail
  refine (setBooking_own x a lv k (P.setC vb c) fo fc w4 HLV.out HPL.out h16 hkl).mono ?_
  rintro e w5 ⟨G, cap, rfl, own5, hb5⟩
  have HO5 : Aside (OwnB w5 w4.heap.size (.slice (some ⟨G, 0, none⟩) x.bks.length cap) (lv.set k (P.setC vb c, fo, fc))) := own5
  have hs5 := sail_below w5 (P.setB x (x.bks.set k (P.setC vb c))) ⟨a.v, a.lo, a.bo, a.lc, a.bc, some ⟨G, 0, none⟩, cap⟩
  have HS5b : Aside (Below w5.heap.size w5 (W.sail w5 (P.setB x (x.bks.set k (P.setC vb c))) ⟨a.v, a.lo, a.bo, a.lc, a.bc, some ⟨G, 0, none⟩, cap⟩)) := hs5
  have HR5 : Aside (SRow (W.sail w5 (P.setB x (x.bks.set k (P.setC vb c))) ⟨a.v, a.lo, a.bo, a.lc, a.bc, some ⟨G, 0, none⟩, cap⟩) w5.heap.size (P.setB x (x.bks.set k (P.setC vb c))) ⟨a.v, a.lo, a.bo, a.lc, a.bc, some ⟨G, 0, none⟩, cap⟩) := RowIs.new w5 _ _
  have HZ5 : Aside (RowIs (W.sail w5 (P.setB x (x.bks.set k (P.setC vb c))) ⟨a.v, a.lo, a.bo, a.lc, a.bc, some ⟨G, 0, none⟩, cap⟩) (w.heap.size + 1) C.zs) := (HZ4.out.below hb5).below hs5
  have HB5 : Aside (Below w.heap.size w (W.sail w5 (P.setB x (x.bks.set k (P.setC vb c))) ⟨a.v, a.lo, a.bo, a.lc, a.bc, some ⟨G, 0, none⟩, cap⟩)) := bvia HB4.out (bvia hb5 hs5)
  have hz4 : w.heap.size + 1 < w4.heap.size := HZ4.out.lt
  have hz45 := hb5.size
  have HS5 : Aside (SailAt (W.sail w5 (P.setB x (x.bks.set k (P.setC vb c))) ⟨a.v, a.lo, a.bo, a.lc, a.bc, some ⟨G, 0, none⟩, cap⟩) (P.setB x (x.bks.set k (P.setC vb c))) ⟨a.v, a.lo, a.bo, a.lc, a.bc, some ⟨G, 0, none⟩, cap⟩) := (setB_tw HS0.out HB00.out HLV.out HLE.out (OwnC.below HO5.out hs5) (by omega) HB5.out (fun U hU => HENT.out U ((bvia HB00.out HB5.out).trans hU.1))).at
  clear d0 d1 d2 d3 d4 d5 d6 d7 d8 d9 d10 d11 d12 z0 z1 z2 z3 z4 z5 z6 z7 z8 z9 z10 own5 hb5 hs5 HX4 HY4 HZ4
  cases hke : (P.bkE x.s (P.setC vb c) == 0)
  · have HME : Aside (P.movE x vb c = P.bkE x.s (P.setC vb c)) := HMB.out
    have HKN : Aside (¬ P.bkE x.s (P.setC vb c) = 0) := by show ¬ _; simpa using hke
    have hke2 : (P.bkE x.s (P.setC vb c) != 0) = true := by simpa using hke
    go_wp2_with ((with_reducible refine wpList_stO (w.heap.size + 1) C.zs (C.sail P.zeroS A.zeroS) ?_ ?_ ?_ HZ5.out ?_ ?_ ?_); exact Tryz.sizeSail; rfl; rfl; rfl; exact sail_one _ _; intro w9 hr9 hg9)
    exact bodyPost_ret (res2 rfl hr9 _ rfl rfl Tryz.underlying32 rfl Tryz.sizeSail) rfl ⟨_, P.zeroS, A.zeroS, rfl, .inr ⟨k, vb, HN.out, HG.out, .inl ⟨by rw [HME.out]; exact HKN.out, HME.out.symm, rfl⟩⟩, SailTw.zero _ _ _, below_gr HB5.out HB5.out.size hg9 (by omega)⟩
  have HK : Aside (P.bkE x.s (P.setC vb c) = 0) := by show _ = _; simpa using hke
  have HME : Aside (P.movE x vb c = 0) := HMB.out.trans HK.out
  rw [HK.out]
  clear hke
  have HALL : Aside (∀ b' ∈ (P.setB x (x.bks.set k (P.setC vb c))).bks, P.bkE (P.setB x (x.bks.set k (P.setC vb c))).s b' = 0) := fun b' hb' => by
    rcases List.mem_or_eq_of_mem_set (show b' ∈ x.bks.set k (P.setC vb c) from hb') with h | rfl
    · exact HBK.out b' h
    · exact HK.out
  have H16 : Aside ((P.setB x (x.bks.set k (P.setC vb c))).bks.length ≤ 16) := by show (x.bks.set k (P.setC vb c)).length ≤ 16; simp; omega
  go_wp2_with fail
  refine (roomOf_any (P.setB x (x.bks.set k (P.setC vb c))) ⟨a.v, a.lo, a.bo, a.lc, a.bc, some ⟨G, 0, none⟩, cap⟩ _ HS5.out H0.out HALL.out H16.out).mono ?_
  rintro e w7 ⟨r, rfl, hr, hb7⟩
  have HRM : Aside (P.Room (P.setB x (x.bks.set k (P.setC vb c))) r) := hr
  have HZ7 : Aside (RowIs w7 (w.heap.size + 1) C.zs) := HZ5.out.below hb7
  have HR7 : Aside (SRow w7 w5.heap.size (P.setB x (x.bks.set k (P.setC vb c))) ⟨a.v, a.lo, a.bo, a.lc, a.bc, some ⟨G, 0, none⟩, cap⟩) := HR5.out.below hb7
  have HB7 : Aside (Below w.heap.size w w7) := bvia HB5.out hb7
  have HO7 : Aside (OwnB w7 w4.heap.size (.slice (some ⟨G, 0, none⟩) x.bks.length cap) (lv.set k (P.setC vb c, fo, fc))) := OwnC.below HO5.out (bvia HS5b.out hb7)
  clear hr hb7 HR5 HZ5 HS5
  cases hz : (r != 0)
  rotate_left
  · have HRN : Aside (¬ r = 0) := by show ¬ _; simpa using hz
    go_wp2_with ((with_reducible refine wpList_stO (w.heap.size + 1) C.zs (C.sail P.zeroS A.zeroS) ?_ ?_ ?_ HZ7.out ?_ ?_ ?_); exact Tryz.sizeSail; rfl; rfl; rfl; exact sail_one _ _; intro w9 hr9 hg9)
    exact bodyPost_ret (res2 rfl hr9 _ rfl rfl Tryz.underlying32 rfl Tryz.sizeSail) rfl ⟨r, P.zeroS, A.zeroS, rfl, .inr ⟨k, vb, HN.out, HG.out, .inr ⟨HME.out, HRM.out, .inr ⟨HRN.out, rfl⟩⟩⟩, SailTw.zero _ _ _, below_gr HB7.out HB7.out.size hg9 (by omega)⟩
  obtain rfl : r = 0 := by simpa using hz
  clear hz
  obtain ⟨d0, d1, d2, d3, d4, d5, d6, d7, d8, d9, d10, d11, d12⟩ := SRow.box HR7.out
  go_wp2_with ((with_reducible refine wpList_stO (w.heap.size + 1) C.zs (C.sail (P.setB x (x.bks.set k (P.setC vb c))) ⟨a.v, a.lo, a.bo, a.lc, a.bc, some ⟨G, 0, none⟩, cap⟩) ?_ ?_ ?_ HZ7.out ?_ ?_ ?_); exact Tryz.sizeSail; rfl; rfl; rfl; exact sail_one _ _; intro w9 hr9 hg9)
  have hB9 := below_gr HB7.out HB7.out.size hg9 (by omega)
  have own9 := OwnC.apart HO7.out hg9 (fun r e hv => by cases e; have := (HO7.out.lt _ hv).1; omega)
  exact bodyPost_ret (res2 rfl hr9 _ rfl rfl Tryz.underlying32 rfl Tryz.sizeSail) rfl ⟨0, (P.setB x (x.bks.set k (P.setC vb c))), ⟨a.v, a.lo, a.bo, a.lc, a.bc, some ⟨G, 0, none⟩, cap⟩, rfl, .inr ⟨k, vb, HN.out, HG.out, .inr ⟨HME.out, HRM.out, .inl ⟨rfl, rfl⟩⟩⟩, setB_tw HS0.out HB00.out HLV.out HLE.out own9 (by omega) hB9 (fun U hU => HENT.out U ((bvia HB00.out hB9).trans hU.1)), hB9⟩

end Go.Proofs.YtlamhfbdeinkkaeGreat.St
