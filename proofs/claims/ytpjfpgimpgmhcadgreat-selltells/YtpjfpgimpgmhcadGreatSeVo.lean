/- The reference: SellOf of a named booking. -/
import Derived.Test.YtpjfpgimpgmhcadGreatSeJo
namespace Go.Proofs.YtpjfpgimpgmhcadGreat.St
open Go.RowKit Bk
set_option linter.unusedSimpArgs false
set_option linter.unusedVariables false
set_option maxRecDepth 10000

set_option maxHeartbeats 16000000 in
theorem sellOf1_any (x : Sail) (a : SailA) (b : Bkg) (fo : Option Addr) (fc : Nat) (w0 w : World) (hWB : WithOwn) (hb00 : Below w0.heap.size w0 w) (hs0 : SailAt w0 x a) (hE : P.SailE x 0) (hf : Fo.EntsAt w fo fc b.fol) :
    Calls Tryz.prog 30 #[V.sail x a, V.bk b fo fc, .int .i64 1] w fun e w' => ∃ r y a', e = .returned (.tuple #[V.sail y a', .int .i64 r]) ∧ P.Sells 1 x b r y ∧ SailTw w0.heap.size w.heap.size w' y a' ∧ Below w.heap.size w w' := by
  have hs : SailAt w x a := hs0.below hb00
  have HS0 : Aside (SailAt w0 x a) := hs0
  have HB00 : Aside (Below w0.heap.size w0 w) := hb00
  obtain ⟨hp, hfr, h0, hbks, h16, _⟩ := sail_ok hE
  have hle := hs.bks.le
  have hmx := hs.bks.max
  unfold maxLen at hmx
  have HS : Aside (SailAt w x a) := hs
  have HE : Aside (P.SailE x 0) := hE
  have HWB : Aside WithOwn := hWB
  have HF : Aside (Fo.EntsAt w fo fc b.fol) := hf
  have H0 : Aside (P.shp x.s = 0) := h0
  have HFR : Aside (P.frame x = 0) := hfr
  have hb0 : Below w.heap.size w (W.sof w x a b fo fc) := bvia (sail_below w x a) (bvia (bk_below _ b fo fc) (by go_grown))
  have HX0 : Aside (SRow (W.sof w x a b fo fc) w.heap.size x a) := ((RowIs.new w _ _ : SRow (W.sail w x a) w.heap.size x a).below (bk_below _ b fo fc)).below (by go_grown)
  have HY0 : Aside (RowIs (W.sof w x a b fo fc) (w.heap.size + 1) (C.bk b fo fc)) := by
    have := (RowIs.new (W.sail w x a) (C.bk b fo fc) 42).below (w' := W.sof w x a b fo fc) (by go_grown)
    rwa [World.size_alloc] at this
  have HZ0 : Aside (RowIs (W.sof w x a b fo fc) (w.heap.size + 1 + 1) C.zs) := by
    have := RowIs.new (W.bk (W.sail w x a) b fo fc) C.zs 32
    rwa [World.size_alloc, World.size_alloc] at this
  clear hs hs0 hb00 hE hf h0 hp hbks hfr hWB
  obtain ⟨z0, z1, z2, z3, z4, z5, z6, z7, z8, z9, z10⟩ := HY0.out.bbox
  go_enter Tryz.func30, Tryz.ntmps30
  cases hkd : (b.kind != 1)
  rotate_left
  · have HM : Aside (P.sellE 1 x b = 7) := by show _ = _; rw [P.sellE, if_neg (fun h => by simp at hkd; exact hkd h.1)]
    go_wp2_with ((with_reducible refine wpList_stO (w.heap.size + 1 + 1) C.zs (C.sail P.zeroS A.zeroS) ?_ ?_ ?_ HZ0.out ?_ ?_ ?_); exact Tryz.sizeSail; rfl; rfl; rfl; exact sail_one _ _; intro w9 hr9 hg9)
    exact bodyPost_ret (res2 rfl hr9 _ rfl rfl Tryz.underlying32 rfl Tryz.sizeSail) rfl ⟨7, P.zeroS, A.zeroS, rfl, .inl ⟨by rw [HM.out]; decide, HM.out.symm, rfl⟩, SailTw.zero _ _ _, below_gr hb0 hb0.size hg9 (by omega)⟩
  have HKD : Aside (b.kind = 1) := by show _ = _; simpa using hkd
  cases hst : (b.state == 3)
  rotate_left
  · have HM : Aside (P.sellE 1 x b = 7) := by show _ = _; rw [P.sellE, if_neg (fun h => by simp at hst; exact h.2 hst)]
    go_wp2_with ((with_reducible refine wpList_stO (w.heap.size + 1 + 1) C.zs (C.sail P.zeroS A.zeroS) ?_ ?_ ?_ HZ0.out ?_ ?_ ?_); exact Tryz.sizeSail; rfl; rfl; rfl; exact sail_one _ _; intro w9 hr9 hg9)
    exact bodyPost_ret (res2 rfl hr9 _ rfl rfl Tryz.underlying32 rfl Tryz.sizeSail) rfl ⟨7, P.zeroS, A.zeroS, rfl, .inl ⟨by rw [HM.out]; decide, HM.out.symm, rfl⟩, SailTw.zero _ _ _, below_gr hb0 hb0.size hg9 (by omega)⟩
  have HSD : Aside (b.kind = 1 ∧ b.state ≠ 3) := ⟨HKD.out, by simpa using hst⟩
  by_cases hfo : 0 < b.fol.length
  · have HM : Aside (P.sellE 1 x b = 1) := by show _ = _; rw [P.sellE, if_pos HSD.out, if_pos (.inl hfo)]
    have hfo2 : (0 : Int) < (b.fol.length : Int) := by omega
    have hd0 : decide (0 < b.fol.length) = true := by simpa using hfo
    go_wp2_with ((with_reducible refine wpList_stO (w.heap.size + 1 + 1) C.zs (C.sail P.zeroS A.zeroS) ?_ ?_ ?_ HZ0.out ?_ ?_ ?_); exact Tryz.sizeSail; rfl; rfl; rfl; exact sail_one _ _; intro w9 hr9 hg9)
    exact bodyPost_ret (res2 rfl hr9 _ rfl rfl Tryz.underlying32 rfl Tryz.sizeSail) rfl ⟨1, P.zeroS, A.zeroS, rfl, .inl ⟨by rw [HM.out]; decide, HM.out.symm, rfl⟩, SailTw.zero _ _ _, below_gr hb0 hb0.size hg9 (by omega)⟩
  have hfo2 : ¬ (0 : Int) < (b.fol.length : Int) := by omega
  have HFO0 : Aside (b.fol.length = 0) := by show _ = _; omega
  have hd0 : decide (0 < b.fol.length) = false := by simpa using hfo
  clear hfo
  obtain ⟨d0, d1, d2, d3, d4, d5, d6, d7, d8, d9, d10, d11, d12⟩ := SRow.box HX0.out
  go_wp2_with fail
  refine (refBk_any x.s a.v b fo fc _ (HS.out.below hb0).ship (SlAt.below Fo.REnt.mono HF.out hb0) H0.out).mono ?_
  rintro e w1 ⟨rfl, hb1⟩
  have hB1 := bvia hb0 hb1
  have HX1 : Aside (SRow w1 w.heap.size x a) := HX0.out.below hb1
  have HY1 : Aside (RowIs w1 (w.heap.size + 1) (C.bk b fo fc)) := HY0.out.below hb1
  have HZ1 : Aside (RowIs w1 (w.heap.size + 1 + 1) C.zs) := HZ0.out.below hb1
  clear d0 d1 d2 d3 d4 d5 d6 d7 d8 d9 d10 d11 d12 z0 z1 z2 z3 z4 z5 z6 z7 z8 z9 z10 HX0 HY0 HZ0 hb0 hb1 hkd hst hfo2 hd0
  cases hk : (P.bkE x.s b != 0)
  rotate_left
  · have HN : Aside (¬ P.bkE x.s b = 0) := by show ¬ _; simpa using hk
    have HM : Aside (P.sellE 1 x b = P.bkE x.s b) := by show _ = _; rw [P.sellE, if_pos HSD.out, if_neg (fun h => h.elim (fun h => by have := HFO0.out; omega) (fun h => absurd h.1 (by decide))), if_neg HN.out]
    go_wp2_with ((with_reducible refine wpList_stO (w.heap.size + 1 + 1) C.zs (C.sail P.zeroS A.zeroS) ?_ ?_ ?_ HZ1.out ?_ ?_ ?_); exact Tryz.sizeSail; rfl; rfl; rfl; exact sail_one _ _; intro w9 hr9 hg9)
    exact bodyPost_ret (res2 rfl hr9 _ rfl rfl Tryz.underlying32 rfl Tryz.sizeSail) rfl ⟨_, P.zeroS, A.zeroS, rfl, .inl ⟨by rw [HM.out]; exact HN.out, HM.out.symm, rfl⟩, SailTw.zero _ _ _, below_gr hB1 hB1.size hg9 (by omega)⟩
  have HK : Aside (P.bkE x.s b = 0) := by show _ = _; simpa using hk
  have HL : Aside (P.sellE 1 x b = P.lateE 1 x b) := by show _ = _; rw [P.sellE, if_pos HSD.out, if_neg (fun h => h.elim (fun h => by have := HFO0.out; omega) (fun h => absurd h.1 (by decide))), if_pos HK.out]
  clear hk
  rw [HK.out]
  have d9 : w1.cell? ⟨w.heap.size, 9, none⟩ = some (.int .i64 x.day) := HX1.out.cell 9
  have d10 : w1.cell? ⟨w.heap.size, 10, none⟩ = some (.int .i64 x.lvs) := HX1.out.cell 10
  have d12 : w1.cell? ⟨w.heap.size, 12, none⟩ = some (.bool x.cl) := HX1.out.cell 12
  have z2 : w1.cell? ⟨w.heap.size + 1, 2, none⟩ = some (.int .i64 b.state) := HY1.out.cell 2
  have z9 : w1.cell? ⟨w.heap.size + 1, 9, none⟩ = some (.int .i64 b.til) := HY1.out.cell 9
  by_cases hl : x.lvs ≤ x.day
  · have HM : Aside (P.sellE 1 x b = 4) := by show _ = _; rw [HL.out, P.lateE, if_pos (.inl (.inl hl))]
    go_wp2_with ((with_reducible refine wpList_stO (w.heap.size + 1 + 1) C.zs (C.sail P.zeroS A.zeroS) ?_ ?_ ?_ HZ1.out ?_ ?_ ?_); exact Tryz.sizeSail; rfl; rfl; rfl; exact sail_one _ _; intro w9 hr9 hg9)
    exact bodyPost_ret (res2 rfl hr9 _ rfl rfl Tryz.underlying32 rfl Tryz.sizeSail) rfl ⟨4, P.zeroS, A.zeroS, rfl, .inl ⟨by rw [HM.out]; decide, HM.out.symm, rfl⟩, SailTw.zero _ _ _, below_gr hB1 hB1.size hg9 (by omega)⟩
  have HLV : Aside (x.lvs ≤ x.day → False) := hl
  by_cases hbad : b.state = 1 ∧ (b.til < x.day ∨ x.lvs ≤ b.til)
  · have HM : Aside (P.sellE 1 x b = 4) := by
      show _ = _
      rw [HL.out, P.lateE, if_pos (.inl (.inr (waits_no hbad.1 hbad.2)))]
    obtain ⟨hs1, hs2⟩ := hbad
    have hs1' : (b.state == 1) = true := by simpa using hs1
    clear hs1
    by_cases hlo : b.til < x.day
    · go_wp2_with ((with_reducible refine wpList_stO (w.heap.size + 1 + 1) C.zs (C.sail P.zeroS A.zeroS) ?_ ?_ ?_ HZ1.out ?_ ?_ ?_); exact Tryz.sizeSail; rfl; rfl; rfl; exact sail_one _ _; intro w9 hr9 hg9)
      exact bodyPost_ret (res2 rfl hr9 _ rfl rfl Tryz.underlying32 rfl Tryz.sizeSail) rfl ⟨4, P.zeroS, A.zeroS, rfl, .inl ⟨by rw [HM.out]; decide, HM.out.symm, rfl⟩, SailTw.zero _ _ _, below_gr hB1 hB1.size hg9 (by omega)⟩
    · have hhi : x.lvs ≤ b.til := by omega
      go_wp2_with ((with_reducible refine wpList_stO (w.heap.size + 1 + 1) C.zs (C.sail P.zeroS A.zeroS) ?_ ?_ ?_ HZ1.out ?_ ?_ ?_); exact Tryz.sizeSail; rfl; rfl; rfl; exact sail_one _ _; intro w9 hr9 hg9)
      exact bodyPost_ret (res2 rfl hr9 _ rfl rfl Tryz.underlying32 rfl Tryz.sizeSail) rfl ⟨4, P.zeroS, A.zeroS, rfl, .inl ⟨by rw [HM.out]; decide, HM.out.symm, rfl⟩, SailTw.zero _ _ _, below_gr hB1 hB1.size hg9 (by omega)⟩
  have HWA : Aside (P.waits x b = true) := by
    show _ = _
    simp only [P.waits, Bool.or_eq_true, Bool.and_eq_true, decide_eq_true_eq]
    by_cases hs1 : b.state = 1
    · right
      exact ⟨Int.not_lt.1 fun h => hbad ⟨hs1, .inl h⟩, Int.not_le.1 fun h => hbad ⟨hs1, .inr h⟩⟩
    · exact .inl hs1
  have HSP : Aside (b.state ≠ 1 ∨ (x.day ≤ b.til ∧ b.til < x.lvs)) := by
    by_cases hs1 : b.state = 1
    · exact .inr ⟨Int.not_lt.1 fun h => hbad ⟨hs1, .inl h⟩, Int.not_le.1 fun h => hbad ⟨hs1, .inr h⟩⟩
    · exact .inl hs1
  clear hbad
  have HLQ : Aside (P.sellE 1 x b = P.midJ x b) := by
    show _ = _
    rw [HL.out, P.lateE, if_neg (fun h => h.elim (fun h => h.elim HLV.out (fun h => by rw [HWA.out] at h; cases h)) (fun h => absurd h.1 (by decide)))]
    rfl
  have HQ : Aside (((b.state == 1) = false) ∨ ((b.state == 1) = true ∧ x.day ≤ b.til ∧ b.til < x.lvs)) := by
    cases h : (b.state == 1)
    · exact .inl rfl
    · rcases HSP.out with h1 | h1
      · simp at h; exact absurd h h1
      · exact .inr ⟨rfl, h1⟩
  obtain ⟨q0, q1, q2, q3, q4, q5, q6, q7, q8, -, -, q11, -⟩ := SRow.box HX1.out
  have z0 : w1.cell? ⟨w.heap.size + 1, 0, none⟩ = some (.int .i64 b.id) := HY1.out.cell 0
  clear HL HSP
  rcases HQ.out with hs1 | ⟨hs1, hs2, hs3⟩
  all_goals
    clear HQ
    go_wp2_with fail
    refine (bookingAt_arg _ x a b.id _ (by rfl) (HS.out.below hB1)).mono ?_
    rintro e w2 ⟨rfl, hb2⟩
    have hB2 := bvia hB1 hb2
    have HX2 : Aside (SRow w2 w.heap.size x a) := HX1.out.below hb2
    have HY2 : Aside (RowIs w2 (w.heap.size + 1) (C.bk b fo fc)) := HY1.out.below hb2
    have HZ2 : Aside (RowIs w2 (w.heap.size + 1 + 1) C.zs) := HZ1.out.below hb2
    clear q0 q1 q2 q3 q4 q5 q6 q7 q8 q11 d9 d10 d12 z0 z2 z9 hb2 hl
    cases hin : P.isIn b.id x.bks
    rotate_left
    · have HM : Aside (P.sellE 1 x b = 6) := by show _ = _; rw [HLQ.out, P.midJ, if_pos hin]
      have hba : (0 : Int) ≤ P.bat b.id 0 x.bks := (bat_is hin)
      go_wp2_with ((with_reducible refine wpList_stO (w.heap.size + 1 + 1) C.zs (C.sail P.zeroS A.zeroS) ?_ ?_ ?_ HZ2.out ?_ ?_ ?_); exact Tryz.sizeSail; rfl; rfl; rfl; exact sail_one _ _; intro w9 hr9 hg9)
      exact bodyPost_ret (res2 rfl hr9 _ rfl rfl Tryz.underlying32 rfl Tryz.sizeSail) rfl ⟨6, P.zeroS, A.zeroS, rfl, .inl ⟨by rw [HM.out]; decide, HM.out.symm, rfl⟩, SailTw.zero _ _ _, below_gr hB2 hB2.size hg9 (by omega)⟩
    have HNI : Aside (P.isIn b.id x.bks = false) := hin
    have hba : P.bat b.id 0 x.bks = -1 := bat_not hin
    rw [hba]
    clear hin hba
    have d11 : w2.cell? ⟨w.heap.size, 11, none⟩ = some (.slice a.ao x.bks.length a.cap) := HX2.out.cell 11
    by_cases hfu : x.bks.length = 16
    · have HM : Aside (P.sellE 1 x b = 2) := by show _ = _; rw [HLQ.out, P.midJ, if_neg (by rw [HNI.out]; decide), if_pos (by omega)]
      have hfu2 : ((x.bks.length : Int) == 16) = true := by simp; omega
      clear hfu
      go_wp2_with ((with_reducible refine wpList_stO (w.heap.size + 1 + 1) C.zs (C.sail P.zeroS A.zeroS) ?_ ?_ ?_ HZ2.out ?_ ?_ ?_); exact Tryz.sizeSail; rfl; rfl; rfl; exact sail_one _ _; intro w9 hr9 hg9)
      exact bodyPost_ret (res2 rfl hr9 _ rfl rfl Tryz.underlying32 rfl Tryz.sizeSail) rfl ⟨2, P.zeroS, A.zeroS, rfl, .inl ⟨by rw [HM.out]; decide, HM.out.symm, rfl⟩, SailTw.zero _ _ _, below_gr hB2 hB2.size hg9 (by omega)⟩
    have HM : Aside (P.sellE 1 x b = 0) := by show _ = _; rw [HLQ.out, P.midJ, if_neg (by rw [HNI.out]; decide), if_neg (by omega)]
    have hfu2 : ((x.bks.length : Int) == 16) = false := by simp; omega
    have hn15 : x.bks.length < 16 := by omega
    clear hfu
    have hle3 := HS.out.ship.cabs.le
    have hmx3 := HS.out.ship.cabs.max
    unfold maxLen at hmx3
    obtain ⟨bb, off, c, hc0, hc1, ec, hm, ebao, q0', q1', q2', q3'⟩ := cab_get' HS.out.ship hB2 (kind_named (bk_ok HK.out).2.2.2.2.2.1 HSD.out.1)
    have HCAT : Aside (P.catOf 1 x b = c.2.1) := by show _ = _; rw [P.catOf, if_pos rfl, ec]
    have HBAO : Aside (a.v.bao = some ⟨bb, off, none⟩) := ebao
    have hz2 : w.heap.size + 1 + 1 < w2.heap.size := HZ2.out.lt
    clear d11
    obtain ⟨d0, d1, d2, d3, d4, d5, d6, d7, d8, d9, d10, d11, d12⟩ := SRow.box HX2.out
    rw [ebao] at d3
    obtain ⟨z0, z1, z2, z3, z4, z5, z6, z7, z8, z9, z10⟩ := HY2.out.bbox
    clear ec hm ebao q0' q2' q3'
    go_wp2_with fail
    go_cut [] from 99 to 111 (fun wx => ∃ u3 : World, FolAt w u3 wx x a (P.priced 1 x b) ∧ Aside (SRow wx w.heap.size x a) ∧ Aside (RowIs wx (w.heap.size + 1) (C.bk (P.priced 1 x b) (some ⟨u3.heap.size, 0, none⟩) 1)))
    case first =>
      go_region_held3 (fun u => u.cell? ⟨w.heap.size, 4, none⟩ = some (.slice a.lo x.L.length a.lc) ∧ u.cell? ⟨w.heap.size, 5, none⟩ = some (.int .i64 x.al) ∧ u.cell? ⟨w.heap.size, 6, none⟩ = some (.int .i64 x.th) ∧ u.cell? ⟨w.heap.size, 7, none⟩ = some (.slice a.bo x.B.length a.bc) ∧ u.cell? ⟨w.heap.size, 8, none⟩ = some (.int .i64 x.dn) ∧ u.cell? ⟨w.heap.size, 9, none⟩ = some (.int .i64 x.day) ∧ u.cell? ⟨w.heap.size + 1, 3, none⟩ = some (.int .i64 b.guests) ∧ u.cell? ⟨w.heap.size + 1, 7, none⟩ = some (.int .i64 b.frm) ∧ u.cell? ⟨w.heap.size + 1, 8, none⟩ = some (.int .i64 b.to))
        (first
          | with_reducible exact ⟨e4, e5, e6, e7, e8, e9, y3, y7, y8⟩
          | with_reducible exact ⟨d4, d5, d6, d7, d8, d9, z3, z7, z8⟩
          | with_reducible exact ⟨Fo.oldCell _ (keep1 (by omega) e4), Fo.oldCell _ (keep1 (by omega) e5), Fo.oldCell _ (keep1 (by omega) e6), Fo.oldCell _ (keep1 (by omega) e7), Fo.oldCell _ (keep1 (by omega) e8), Fo.oldCell _ (keep1 (by omega) e9), Fo.oldCell _ (keep1 (by omega) y3), Fo.oldCell _ (keep1 (by omega) y7), Fo.oldCell _ (keep1 (by omega) y8)⟩
          | with_reducible exact ⟨keep1 (by omega) e4, keep1 (by omega) e5, keep1 (by omega) e6, keep1 (by omega) e7, keep1 (by omega) e8, keep1 (by omega) e9, keep1 (by omega) y3, keep1 (by omega) y7, keep1 (by omega) y8⟩
          | with_reducible exact ⟨Fo.oldCell _ e4, Fo.oldCell _ e5, Fo.oldCell _ e6, Fo.oldCell _ e7, Fo.oldCell _ e8, Fo.oldCell _ e9, Fo.oldCell _ y3, Fo.oldCell _ y7, Fo.oldCell _ y8⟩
          | go_keep)
        ((go_at_call 83; refine (priceOf_fee 1 c.2.1 x a b _ (by simp) (HS.out.below (by first | exact hB2 | exact bvia hB2 (dr _))) HFR.out HSD.out.1 HK.out HCAT.out).mono ?_; rintro e w3 ⟨rfl, hb3⟩; have hb23 : Below w2.heap.size w2 w3 := (by first | exact hb3 | exact bvia (dr _) hb3); obtain ⟨e0, e1, e2, e3, e4, e5, e6, e7, e8, e9, e10, e11, e12⟩ := SRow.box (HX2.out.below hb23); obtain ⟨y0, y1, y2, y3, y4, y5, y6, y7, y8, y9, y10⟩ := RowIs.bbox (HY2.out.below hb23); have g10 : w3.frozen? ⟨w.heap.size + 1, 10, none⟩ = false := (HY2.out.below hb23).free 10; have hz3 : w.heap.size + 1 + 1 < w3.heap.size := Nat.lt_of_lt_of_le hz2 hb23.size; have hl0 : w.heap.size < w3.heap.size := (by omega); have hl1 : w.heap.size + 1 < w3.heap.size := (by omega)))
      all_goals
        go_wp2_with fail
        go_meet
        exact fol_meet 1 (bvia hB2 hb23) (HX2.out.below hb23) (HY2.out.below hb23) (HZ2.out.below hb23)
    case rest =>
    obtain ⟨w3, hfa, HX4, HY4⟩ := hcut
    have HFA : Aside (FolAt w w3 wc x a (P.priced 1 x b)) := hfa
    obtain ⟨lv, hlv, hl⟩ := BksAt.pick HS0.out.bks
    have HLV : Aside (lv.map (·.1) = x.bks) := hlv
    have HLE : Aside (BkVsAt w0 a.ao a.cap lv) := hl
    clear hlv hl hfa d0 d1 d2 d3 d4 d5 d6 d7 d8 d9 d10 d11 d12 z0 z1 z2 z3 z4 z5 z6 z7 z8 z9 z10 HX2 HY2 HZ2 HCAT q1'
    have HWC : Aside (Below w.heap.size w wc) := HFA.out.B
    have HPL : Aside (SlAt (RC cellsV) 11 wc a.ao a.cap lv) := BkVsAt.plain (SlAt.below RBkV.mono HLE.out (bvia HB00.out HWC.out))
    obtain ⟨d0, d1, d2, d3, d4, d5, d6, d7, d8, d9, d10, d11, d12⟩ := SRow.box HX4.out
    obtain ⟨z0, z1, z2, z3, z4, z5, z6, z7, z8, z9, z10⟩ := HY4.out.bbox
    go_wp2_with fail
    refine (HWB.out x a lv (P.priced 1 x b) (some ⟨w3.heap.size, 0, none⟩) 1 wc HLV.out HPL.out HE.out HNI.out).mono ?_
    rintro e w5 ⟨G, cap, rfl, own5, hb5⟩
    have HO5 : Aside (OwnB w5 wc.heap.size (.slice (some ⟨G, 0, none⟩) (x.bks.length + 1) cap) (P.insV (P.priced 1 x b, some ⟨w3.heap.size, 0, none⟩, 1) lv)) := own5
    have HB5 : Aside (Below wc.heap.size wc w5) := hb5
    have hs5 := sail_below w5 (P.withB x (P.priced 1 x b)) ⟨a.v, a.lo, a.bo, a.lc, a.bc, some ⟨G, 0, none⟩, cap⟩
    have HR5 : Aside (SRow (W.sail w5 (P.withB x (P.priced 1 x b)) ⟨a.v, a.lo, a.bo, a.lc, a.bc, some ⟨G, 0, none⟩, cap⟩) w5.heap.size (P.withB x (P.priced 1 x b)) ⟨a.v, a.lo, a.bo, a.lc, a.bc, some ⟨G, 0, none⟩, cap⟩) := RowIs.new w5 _ _
    have HZ5 : Aside (RowIs (W.sail w5 (P.withB x (P.priced 1 x b)) ⟨a.v, a.lo, a.bo, a.lc, a.bc, some ⟨G, 0, none⟩, cap⟩) (w.heap.size + 1 + 1) C.zs) := (HFA.out.Z.below hb5).below hs5
    have HS5 : Aside (SailAt (W.sail w5 (P.withB x (P.priced 1 x b)) ⟨a.v, a.lo, a.bo, a.lc, a.bc, some ⟨G, 0, none⟩, cap⟩) (P.withB x (P.priced 1 x b)) ⟨a.v, a.lo, a.bo, a.lc, a.bc, some ⟨G, 0, none⟩, cap⟩) := by
      have hB5' : Below w0.heap.size w0 w5 := bvia HB00.out (bvia HWC.out hb5)
      exact (with_sail' HLV.out own5 (HS0.out.below hB5').ship (HS0.out.below hB5').fare (fun y hy => SlAt.below Fo.REnt.mono (HLE.out.ents y hy) hB5') (SlAt.below Fo.REnt.mono HFA.out.N hb5)).below hs5
    have HPA : Aside (P.shp (P.withB x (P.priced 1 x b)).s = 0 ∧ (∀ b' ∈ (P.withB x (P.priced 1 x b)).bks, P.bkE (P.withB x (P.priced 1 x b)).s b' = 0) ∧ (P.withB x (P.priced 1 x b)).bks.length ≤ 16) := pre_all (sell_pre (by simp) HE.out HM.out).2.1
    have HS5b : Aside (Below w5.heap.size w5 (W.sail w5 (P.withB x (P.priced 1 x b)) ⟨a.v, a.lo, a.bo, a.lc, a.bc, some ⟨G, 0, none⟩, cap⟩)) := hs5
    clear d0 d1 d2 d3 d4 d5 d6 d7 d8 d9 d10 d11 d12 z0 z1 z2 z3 z4 z5 z6 z7 z8 z9 z10 own5 hb5 hs5 HX4 HY4
    go_wp2_with fail
    refine (roomOf_any (P.withB x (P.priced 1 x b)) ⟨a.v, a.lo, a.bo, a.lc, a.bc, some ⟨G, 0, none⟩, cap⟩ _ HS5.out HPA.out.1 HPA.out.2.1 HPA.out.2.2).mono ?_
    rintro e w7 ⟨r, rfl, hr, hb7⟩
    have HRM : Aside (P.Room (P.withB x (P.priced 1 x b)) r) := hr
    have HZ7 : Aside (RowIs w7 (w.heap.size + 1 + 1) C.zs) := HZ5.out.below hb7
    have HR7 : Aside (SRow w7 w5.heap.size (P.withB x (P.priced 1 x b)) ⟨a.v, a.lo, a.bo, a.lc, a.bc, some ⟨G, 0, none⟩, cap⟩) := HR5.out.below hb7
    have HFIN : Aside (∀ w9, w7.grownBy w9 (some (w.heap.size + 1 + 1)) → SailTw w0.heap.size w.heap.size w9 (P.withB x (P.priced 1 x b)) ⟨a.v, a.lo, a.bo, a.lc, a.bc, some ⟨G, 0, none⟩, cap⟩) := fun w9 hg => withB_fin HS0.out HB00.out HLV.out (fun y hy => HLE.out.ents y hy) HFA.out HO5.out HB5.out (bvia HS5b.out hb7) hg
    have HB7 : Aside (Below w.heap.size w w7) := bvia HWC.out (bvia HB5.out (bvia HS5b.out hb7))
    clear hr hb7 HR5 HZ5 HS5
    cases hz : (r != 0)
    rotate_left
    · have HN : Aside (¬ r = 0) := by show ¬ _; simpa using hz
      go_wp2_with ((with_reducible refine wpList_stO (w.heap.size + 1 + 1) C.zs (C.sail P.zeroS A.zeroS) ?_ ?_ ?_ HZ7.out ?_ ?_ ?_); exact Tryz.sizeSail; rfl; rfl; rfl; exact sail_one _ _; intro w9 hr9 hg9)
      exact bodyPost_ret (res2 rfl hr9 _ rfl rfl Tryz.underlying32 rfl Tryz.sizeSail) rfl ⟨r, P.zeroS, A.zeroS, rfl, .inr ⟨HM.out, HRM.out, .inr ⟨HN.out, rfl⟩⟩, SailTw.zero _ _ _, below_gr HB7.out HB7.out.size hg9 (by omega)⟩
    obtain rfl : r = 0 := by simpa using hz
    clear hz
    obtain ⟨d0, d1, d2, d3, d4, d5, d6, d7, d8, d9, d10, d11, d12⟩ := SRow.box HR7.out
    go_wp2_with ((with_reducible refine wpList_stO (w.heap.size + 1 + 1) C.zs (C.sail (P.withB x (P.priced 1 x b)) ⟨a.v, a.lo, a.bo, a.lc, a.bc, some ⟨G, 0, none⟩, cap⟩) ?_ ?_ ?_ HZ7.out ?_ ?_ ?_); exact Tryz.sizeSail; rfl; rfl; rfl; exact sail_one _ _; intro w9 hr9 hg9)
    exact bodyPost_ret (res2 rfl hr9 _ rfl rfl Tryz.underlying32 rfl Tryz.sizeSail) rfl ⟨0, (P.withB x (P.priced 1 x b)), ⟨a.v, a.lo, a.bo, a.lc, a.bc, some ⟨G, 0, none⟩, cap⟩, rfl, .inr ⟨HM.out, HRM.out, .inl ⟨rfl, rfl⟩⟩, HFIN.out w9 hg9, below_gr HB7.out HB7.out.size hg9 (by omega)⟩

end Go.Proofs.YtpjfpgimpgmhcadGreat.St
namespace Go.Proofs.YtpjfpgimpgmhcadGreat.St
open Go.RowKit Bk
set_option linter.unusedSimpArgs false
set_option linter.unusedVariables false
set_option maxRecDepth 10000

set_option maxHeartbeats 16000000 in
theorem sellOf2_any (x : Sail) (a : SailA) (b : Bkg) (fo : Option Addr) (fc : Nat) (w0 w : World) (hWB : WithOwn) (hb00 : Below w0.heap.size w0 w) (hs0 : SailAt w0 x a) (hE : P.SailE x 0) (hf : Fo.EntsAt w fo fc b.fol) :
    Calls Tryz.prog 30 #[V.sail x a, V.bk b fo fc, .int .i64 2] w fun e w' => ∃ r y a', e = .returned (.tuple #[V.sail y a', .int .i64 r]) ∧ P.Sells 2 x b r y ∧ SailTw w0.heap.size w.heap.size w' y a' ∧ Below w.heap.size w w' := by
  have hs : SailAt w x a := hs0.below hb00
  have HS0 : Aside (SailAt w0 x a) := hs0
  have HB00 : Aside (Below w0.heap.size w0 w) := hb00
  obtain ⟨hp, hfr, h0, hbks, h16, _⟩ := sail_ok hE
  have hle := hs.bks.le
  have hmx := hs.bks.max
  unfold maxLen at hmx
  have HS : Aside (SailAt w x a) := hs
  have HE : Aside (P.SailE x 0) := hE
  have HWB : Aside WithOwn := hWB
  have HF : Aside (Fo.EntsAt w fo fc b.fol) := hf
  have H0 : Aside (P.shp x.s = 0) := h0
  have HFR : Aside (P.frame x = 0) := hfr
  have hb0 : Below w.heap.size w (W.sof w x a b fo fc) := bvia (sail_below w x a) (bvia (bk_below _ b fo fc) (by go_grown))
  have HX0 : Aside (SRow (W.sof w x a b fo fc) w.heap.size x a) := ((RowIs.new w _ _ : SRow (W.sail w x a) w.heap.size x a).below (bk_below _ b fo fc)).below (by go_grown)
  have HY0 : Aside (RowIs (W.sof w x a b fo fc) (w.heap.size + 1) (C.bk b fo fc)) := by
    have := (RowIs.new (W.sail w x a) (C.bk b fo fc) 42).below (w' := W.sof w x a b fo fc) (by go_grown)
    rwa [World.size_alloc] at this
  have HZ0 : Aside (RowIs (W.sof w x a b fo fc) (w.heap.size + 1 + 1) C.zs) := by
    have := RowIs.new (W.bk (W.sail w x a) b fo fc) C.zs 32
    rwa [World.size_alloc, World.size_alloc] at this
  clear hs hs0 hb00 hE hf h0 hp hbks hfr hWB
  obtain ⟨z0, z1, z2, z3, z4, z5, z6, z7, z8, z9, z10⟩ := HY0.out.bbox
  go_enter Tryz.func30, Tryz.ntmps30
  cases hkd : (b.kind != 2)
  rotate_left
  · have HM : Aside (P.sellE 2 x b = 7) := by show _ = _; rw [P.sellE, if_neg (fun h => by simp at hkd; exact hkd h.1)]
    go_wp2_with ((with_reducible refine wpList_stO (w.heap.size + 1 + 1) C.zs (C.sail P.zeroS A.zeroS) ?_ ?_ ?_ HZ0.out ?_ ?_ ?_); exact Tryz.sizeSail; rfl; rfl; rfl; exact sail_one _ _; intro w9 hr9 hg9)
    exact bodyPost_ret (res2 rfl hr9 _ rfl rfl Tryz.underlying32 rfl Tryz.sizeSail) rfl ⟨7, P.zeroS, A.zeroS, rfl, .inl ⟨by rw [HM.out]; decide, HM.out.symm, rfl⟩, SailTw.zero _ _ _, below_gr hb0 hb0.size hg9 (by omega)⟩
  have HKD : Aside (b.kind = 2) := by show _ = _; simpa using hkd
  cases hst : (b.state == 3)
  rotate_left
  · have HM : Aside (P.sellE 2 x b = 7) := by show _ = _; rw [P.sellE, if_neg (fun h => by simp at hst; exact h.2 hst)]
    go_wp2_with ((with_reducible refine wpList_stO (w.heap.size + 1 + 1) C.zs (C.sail P.zeroS A.zeroS) ?_ ?_ ?_ HZ0.out ?_ ?_ ?_); exact Tryz.sizeSail; rfl; rfl; rfl; exact sail_one _ _; intro w9 hr9 hg9)
    exact bodyPost_ret (res2 rfl hr9 _ rfl rfl Tryz.underlying32 rfl Tryz.sizeSail) rfl ⟨7, P.zeroS, A.zeroS, rfl, .inl ⟨by rw [HM.out]; decide, HM.out.symm, rfl⟩, SailTw.zero _ _ _, below_gr hb0 hb0.size hg9 (by omega)⟩
  have HSD : Aside (b.kind = 2 ∧ b.state ≠ 3) := ⟨HKD.out, by simpa using hst⟩
  by_cases hfo : 0 < b.fol.length
  · have HM : Aside (P.sellE 2 x b = 1) := by show _ = _; rw [P.sellE, if_pos HSD.out, if_pos (.inl hfo)]
    have hfo2 : (0 : Int) < (b.fol.length : Int) := by omega
    have hd0 : decide (0 < b.fol.length) = true := by simpa using hfo
    go_wp2_with ((with_reducible refine wpList_stO (w.heap.size + 1 + 1) C.zs (C.sail P.zeroS A.zeroS) ?_ ?_ ?_ HZ0.out ?_ ?_ ?_); exact Tryz.sizeSail; rfl; rfl; rfl; exact sail_one _ _; intro w9 hr9 hg9)
    exact bodyPost_ret (res2 rfl hr9 _ rfl rfl Tryz.underlying32 rfl Tryz.sizeSail) rfl ⟨1, P.zeroS, A.zeroS, rfl, .inl ⟨by rw [HM.out]; decide, HM.out.symm, rfl⟩, SailTw.zero _ _ _, below_gr hb0 hb0.size hg9 (by omega)⟩
  have hfo2 : ¬ (0 : Int) < (b.fol.length : Int) := by omega
  have HFO0 : Aside (b.fol.length = 0) := by show _ = _; omega
  have hd0 : decide (0 < b.fol.length) = false := by simpa using hfo
  clear hfo
  cases hcb : (b.cabin != -1)
  rotate_left
  · have HM : Aside (P.sellE 2 x b = 1) := by show _ = _; rw [P.sellE, if_pos HSD.out, if_pos (.inr ⟨rfl, by simpa using hcb⟩)]
    go_wp2_with ((with_reducible refine wpList_stO (w.heap.size + 1 + 1) C.zs (C.sail P.zeroS A.zeroS) ?_ ?_ ?_ HZ0.out ?_ ?_ ?_); exact Tryz.sizeSail; rfl; rfl; rfl; exact sail_one _ _; intro w9 hr9 hg9)
    exact bodyPost_ret (res2 rfl hr9 _ rfl rfl Tryz.underlying32 rfl Tryz.sizeSail) rfl ⟨1, P.zeroS, A.zeroS, rfl, .inl ⟨by rw [HM.out]; decide, HM.out.symm, rfl⟩, SailTw.zero _ _ _, below_gr hb0 hb0.size hg9 (by omega)⟩
  have HCB : Aside (b.cabin = -1) := by show _ = _; simpa using hcb
  obtain ⟨d0, d1, d2, d3, d4, d5, d6, d7, d8, d9, d10, d11, d12⟩ := SRow.box HX0.out
  go_wp2_with fail
  refine (refBk_any x.s a.v b fo fc _ (HS.out.below hb0).ship (SlAt.below Fo.REnt.mono HF.out hb0) H0.out).mono ?_
  rintro e w1 ⟨rfl, hb1⟩
  have hB1 := bvia hb0 hb1
  have HX1 : Aside (SRow w1 w.heap.size x a) := HX0.out.below hb1
  have HY1 : Aside (RowIs w1 (w.heap.size + 1) (C.bk b fo fc)) := HY0.out.below hb1
  have HZ1 : Aside (RowIs w1 (w.heap.size + 1 + 1) C.zs) := HZ0.out.below hb1
  clear d0 d1 d2 d3 d4 d5 d6 d7 d8 d9 d10 d11 d12 z0 z1 z2 z3 z4 z5 z6 z7 z8 z9 z10 HX0 HY0 HZ0 hb0 hb1 hkd hst hfo2 hd0
  cases hk : (P.bkE x.s b != 0)
  rotate_left
  · have HN : Aside (¬ P.bkE x.s b = 0) := by show ¬ _; simpa using hk
    have HM : Aside (P.sellE 2 x b = P.bkE x.s b) := by show _ = _; rw [P.sellE, if_pos HSD.out, if_neg (fun h => h.elim (fun h => by have := HFO0.out; omega) (fun h => h.2 HCB.out)), if_neg HN.out]
    go_wp2_with ((with_reducible refine wpList_stO (w.heap.size + 1 + 1) C.zs (C.sail P.zeroS A.zeroS) ?_ ?_ ?_ HZ1.out ?_ ?_ ?_); exact Tryz.sizeSail; rfl; rfl; rfl; exact sail_one _ _; intro w9 hr9 hg9)
    exact bodyPost_ret (res2 rfl hr9 _ rfl rfl Tryz.underlying32 rfl Tryz.sizeSail) rfl ⟨_, P.zeroS, A.zeroS, rfl, .inl ⟨by rw [HM.out]; exact HN.out, HM.out.symm, rfl⟩, SailTw.zero _ _ _, below_gr hB1 hB1.size hg9 (by omega)⟩
  have HK : Aside (P.bkE x.s b = 0) := by show _ = _; simpa using hk
  have HL : Aside (P.sellE 2 x b = P.lateE 2 x b) := by show _ = _; rw [P.sellE, if_pos HSD.out, if_neg (fun h => h.elim (fun h => by have := HFO0.out; omega) (fun h => h.2 HCB.out)), if_pos HK.out]
  clear hk
  rw [HK.out]
  have d9 : w1.cell? ⟨w.heap.size, 9, none⟩ = some (.int .i64 x.day) := HX1.out.cell 9
  have d10 : w1.cell? ⟨w.heap.size, 10, none⟩ = some (.int .i64 x.lvs) := HX1.out.cell 10
  have d12 : w1.cell? ⟨w.heap.size, 12, none⟩ = some (.bool x.cl) := HX1.out.cell 12
  have z2 : w1.cell? ⟨w.heap.size + 1, 2, none⟩ = some (.int .i64 b.state) := HY1.out.cell 2
  have z9 : w1.cell? ⟨w.heap.size + 1, 9, none⟩ = some (.int .i64 b.til) := HY1.out.cell 9
  by_cases hl : x.lvs ≤ x.day
  · have HM : Aside (P.sellE 2 x b = 4) := by show _ = _; rw [HL.out, P.lateE, if_pos (.inl (.inl hl))]
    go_wp2_with ((with_reducible refine wpList_stO (w.heap.size + 1 + 1) C.zs (C.sail P.zeroS A.zeroS) ?_ ?_ ?_ HZ1.out ?_ ?_ ?_); exact Tryz.sizeSail; rfl; rfl; rfl; exact sail_one _ _; intro w9 hr9 hg9)
    exact bodyPost_ret (res2 rfl hr9 _ rfl rfl Tryz.underlying32 rfl Tryz.sizeSail) rfl ⟨4, P.zeroS, A.zeroS, rfl, .inl ⟨by rw [HM.out]; decide, HM.out.symm, rfl⟩, SailTw.zero _ _ _, below_gr hB1 hB1.size hg9 (by omega)⟩
  have HLV : Aside (x.lvs ≤ x.day → False) := hl
  by_cases hbad : b.state = 1 ∧ (b.til < x.day ∨ x.lvs ≤ b.til)
  · have HM : Aside (P.sellE 2 x b = 4) := by
      show _ = _
      rw [HL.out, P.lateE, if_pos (.inl (.inr (waits_no hbad.1 hbad.2)))]
    obtain ⟨hs1, hs2⟩ := hbad
    have hs1' : (b.state == 1) = true := by simpa using hs1
    clear hs1
    by_cases hlo : b.til < x.day
    · go_wp2_with ((with_reducible refine wpList_stO (w.heap.size + 1 + 1) C.zs (C.sail P.zeroS A.zeroS) ?_ ?_ ?_ HZ1.out ?_ ?_ ?_); exact Tryz.sizeSail; rfl; rfl; rfl; exact sail_one _ _; intro w9 hr9 hg9)
      exact bodyPost_ret (res2 rfl hr9 _ rfl rfl Tryz.underlying32 rfl Tryz.sizeSail) rfl ⟨4, P.zeroS, A.zeroS, rfl, .inl ⟨by rw [HM.out]; decide, HM.out.symm, rfl⟩, SailTw.zero _ _ _, below_gr hB1 hB1.size hg9 (by omega)⟩
    · have hhi : x.lvs ≤ b.til := by omega
      go_wp2_with ((with_reducible refine wpList_stO (w.heap.size + 1 + 1) C.zs (C.sail P.zeroS A.zeroS) ?_ ?_ ?_ HZ1.out ?_ ?_ ?_); exact Tryz.sizeSail; rfl; rfl; rfl; exact sail_one _ _; intro w9 hr9 hg9)
      exact bodyPost_ret (res2 rfl hr9 _ rfl rfl Tryz.underlying32 rfl Tryz.sizeSail) rfl ⟨4, P.zeroS, A.zeroS, rfl, .inl ⟨by rw [HM.out]; decide, HM.out.symm, rfl⟩, SailTw.zero _ _ _, below_gr hB1 hB1.size hg9 (by omega)⟩
  have HWA : Aside (P.waits x b = true) := by
    show _ = _
    simp only [P.waits, Bool.or_eq_true, Bool.and_eq_true, decide_eq_true_eq]
    by_cases hs1 : b.state = 1
    · right
      exact ⟨Int.not_lt.1 fun h => hbad ⟨hs1, .inl h⟩, Int.not_le.1 fun h => hbad ⟨hs1, .inr h⟩⟩
    · exact .inl hs1
  have HSP : Aside (b.state ≠ 1 ∨ (x.day ≤ b.til ∧ b.til < x.lvs)) := by
    by_cases hs1 : b.state = 1
    · exact .inr ⟨Int.not_lt.1 fun h => hbad ⟨hs1, .inl h⟩, Int.not_le.1 fun h => hbad ⟨hs1, .inr h⟩⟩
    · exact .inl hs1
  clear hbad
  cases hcl : x.cl
  rotate_left
  · have HM : Aside (P.sellE 2 x b = 4) := by show _ = _; rw [HL.out, P.lateE, if_pos (.inr ⟨rfl, hcl⟩)]
    rw [hcl] at d12
    clear hcl
    rcases HSP.out with h1 | ⟨h1, h2⟩
    · have hs1' : (b.state == 1) = false := by simpa using h1
      clear h1
      go_wp2_with ((with_reducible refine wpList_stO (w.heap.size + 1 + 1) C.zs (C.sail P.zeroS A.zeroS) ?_ ?_ ?_ HZ1.out ?_ ?_ ?_); exact Tryz.sizeSail; rfl; rfl; rfl; exact sail_one _ _; intro w9 hr9 hg9)
      exact bodyPost_ret (res2 rfl hr9 _ rfl rfl Tryz.underlying32 rfl Tryz.sizeSail) rfl ⟨4, P.zeroS, A.zeroS, rfl, .inl ⟨by rw [HM.out]; decide, HM.out.symm, rfl⟩, SailTw.zero _ _ _, below_gr hB1 hB1.size hg9 (by omega)⟩
    · cases hs1' : (b.state == 1)
      · go_wp2_with ((with_reducible refine wpList_stO (w.heap.size + 1 + 1) C.zs (C.sail P.zeroS A.zeroS) ?_ ?_ ?_ HZ1.out ?_ ?_ ?_); exact Tryz.sizeSail; rfl; rfl; rfl; exact sail_one _ _; intro w9 hr9 hg9)
        exact bodyPost_ret (res2 rfl hr9 _ rfl rfl Tryz.underlying32 rfl Tryz.sizeSail) rfl ⟨4, P.zeroS, A.zeroS, rfl, .inl ⟨by rw [HM.out]; decide, HM.out.symm, rfl⟩, SailTw.zero _ _ _, below_gr hB1 hB1.size hg9 (by omega)⟩
      · go_wp2_with ((with_reducible refine wpList_stO (w.heap.size + 1 + 1) C.zs (C.sail P.zeroS A.zeroS) ?_ ?_ ?_ HZ1.out ?_ ?_ ?_); exact Tryz.sizeSail; rfl; rfl; rfl; exact sail_one _ _; intro w9 hr9 hg9)
        exact bodyPost_ret (res2 rfl hr9 _ rfl rfl Tryz.underlying32 rfl Tryz.sizeSail) rfl ⟨4, P.zeroS, A.zeroS, rfl, .inl ⟨by rw [HM.out]; decide, HM.out.symm, rfl⟩, SailTw.zero _ _ _, below_gr hB1 hB1.size hg9 (by omega)⟩
  have HCL : Aside (x.cl = false) := hcl
  rw [hcl] at d12
  clear hcl
  have HLQ : Aside (P.sellE 2 x b = P.midJ x b) := by
    show _ = _
    rw [HL.out, P.lateE, if_neg (fun h => h.elim (fun h => h.elim HLV.out (fun h => by rw [HWA.out] at h; cases h)) (fun h => by rw [HCL.out] at h; cases h.2))]
    rfl
  have HQ : Aside (((b.state == 1) = false) ∨ ((b.state == 1) = true ∧ x.day ≤ b.til ∧ b.til < x.lvs)) := by
    cases h : (b.state == 1)
    · exact .inl rfl
    · rcases HSP.out with h1 | h1
      · simp at h; exact absurd h h1
      · exact .inr ⟨rfl, h1⟩
  obtain ⟨q0, q1, q2, q3, q4, q5, q6, q7, q8, -, -, q11, -⟩ := SRow.box HX1.out
  have z0 : w1.cell? ⟨w.heap.size + 1, 0, none⟩ = some (.int .i64 b.id) := HY1.out.cell 0
  clear HL HSP
  rcases HQ.out with hs1 | ⟨hs1, hs2, hs3⟩
  all_goals
    clear HQ
    go_wp2_with fail
    refine (bookingAt_arg _ x a b.id _ (by simp only [V.sail, HCL.out]) (HS.out.below hB1)).mono ?_
    rintro e w2 ⟨rfl, hb2⟩
    have hB2 := bvia hB1 hb2
    have HX2 : Aside (SRow w2 w.heap.size x a) := HX1.out.below hb2
    have HY2 : Aside (RowIs w2 (w.heap.size + 1) (C.bk b fo fc)) := HY1.out.below hb2
    have HZ2 : Aside (RowIs w2 (w.heap.size + 1 + 1) C.zs) := HZ1.out.below hb2
    clear q0 q1 q2 q3 q4 q5 q6 q7 q8 q11 d9 d10 d12 z0 z2 z9 hb2 hl
    cases hin : P.isIn b.id x.bks
    rotate_left
    · have HM : Aside (P.sellE 2 x b = 6) := by show _ = _; rw [HLQ.out, P.midJ, if_pos hin]
      have hba : (0 : Int) ≤ P.bat b.id 0 x.bks := (bat_is hin)
      go_wp2_with ((with_reducible refine wpList_stO (w.heap.size + 1 + 1) C.zs (C.sail P.zeroS A.zeroS) ?_ ?_ ?_ HZ2.out ?_ ?_ ?_); exact Tryz.sizeSail; rfl; rfl; rfl; exact sail_one _ _; intro w9 hr9 hg9)
      exact bodyPost_ret (res2 rfl hr9 _ rfl rfl Tryz.underlying32 rfl Tryz.sizeSail) rfl ⟨6, P.zeroS, A.zeroS, rfl, .inl ⟨by rw [HM.out]; decide, HM.out.symm, rfl⟩, SailTw.zero _ _ _, below_gr hB2 hB2.size hg9 (by omega)⟩
    have HNI : Aside (P.isIn b.id x.bks = false) := hin
    have hba : P.bat b.id 0 x.bks = -1 := bat_not hin
    rw [hba]
    clear hin hba
    have d11 : w2.cell? ⟨w.heap.size, 11, none⟩ = some (.slice a.ao x.bks.length a.cap) := HX2.out.cell 11
    by_cases hfu : x.bks.length = 16
    · have HM : Aside (P.sellE 2 x b = 2) := by show _ = _; rw [HLQ.out, P.midJ, if_neg (by rw [HNI.out]; decide), if_pos (by omega)]
      have hfu2 : ((x.bks.length : Int) == 16) = true := by simp; omega
      clear hfu
      go_wp2_with ((with_reducible refine wpList_stO (w.heap.size + 1 + 1) C.zs (C.sail P.zeroS A.zeroS) ?_ ?_ ?_ HZ2.out ?_ ?_ ?_); exact Tryz.sizeSail; rfl; rfl; rfl; exact sail_one _ _; intro w9 hr9 hg9)
      exact bodyPost_ret (res2 rfl hr9 _ rfl rfl Tryz.underlying32 rfl Tryz.sizeSail) rfl ⟨2, P.zeroS, A.zeroS, rfl, .inl ⟨by rw [HM.out]; decide, HM.out.symm, rfl⟩, SailTw.zero _ _ _, below_gr hB2 hB2.size hg9 (by omega)⟩
    have HM : Aside (P.sellE 2 x b = 0) := by show _ = _; rw [HLQ.out, P.midJ, if_neg (by rw [HNI.out]; decide), if_neg (by omega)]
    have hfu2 : ((x.bks.length : Int) == 16) = false := by simp; omega
    have hn15 : x.bks.length < 16 := by omega
    clear hfu
    have hle3 := HS.out.ship.cabs.le
    have hmx3 := HS.out.ship.cabs.max
    unfold maxLen at hmx3
    have HCAT : Aside (P.catOf 2 x b = b.cat) := by show _ = _; rw [P.catOf, if_neg (by decide)]
    have hz2 : w.heap.size + 1 + 1 < w2.heap.size := HZ2.out.lt
    clear d11
    obtain ⟨d0, d1, d2, d3, d4, d5, d6, d7, d8, d9, d10, d11, d12⟩ := SRow.box HX2.out
    obtain ⟨z0, z1, z2, z3, z4, z5, z6, z7, z8, z9, z10⟩ := HY2.out.bbox
    go_wp2_with fail
    go_cut [] from 99 to 111 (fun wx => ∃ u3 : World, FolAt w u3 wx x a (P.priced 2 x b) ∧ Aside (SRow wx w.heap.size x a) ∧ Aside (RowIs wx (w.heap.size + 1) (C.bk (P.priced 2 x b) (some ⟨u3.heap.size, 0, none⟩) 1)))
    case first =>
      go_region_held3 (fun u => u.cell? ⟨w.heap.size, 4, none⟩ = some (.slice a.lo x.L.length a.lc) ∧ u.cell? ⟨w.heap.size, 5, none⟩ = some (.int .i64 x.al) ∧ u.cell? ⟨w.heap.size, 6, none⟩ = some (.int .i64 x.th) ∧ u.cell? ⟨w.heap.size, 7, none⟩ = some (.slice a.bo x.B.length a.bc) ∧ u.cell? ⟨w.heap.size, 8, none⟩ = some (.int .i64 x.dn) ∧ u.cell? ⟨w.heap.size, 9, none⟩ = some (.int .i64 x.day) ∧ u.cell? ⟨w.heap.size + 1, 3, none⟩ = some (.int .i64 b.guests) ∧ u.cell? ⟨w.heap.size + 1, 7, none⟩ = some (.int .i64 b.frm) ∧ u.cell? ⟨w.heap.size + 1, 8, none⟩ = some (.int .i64 b.to))
        (first
          | with_reducible exact ⟨e4, e5, e6, e7, e8, e9, y3, y7, y8⟩
          | with_reducible exact ⟨d4, d5, d6, d7, d8, d9, z3, z7, z8⟩
          | with_reducible exact ⟨Fo.oldCell _ (keep1 (by omega) e4), Fo.oldCell _ (keep1 (by omega) e5), Fo.oldCell _ (keep1 (by omega) e6), Fo.oldCell _ (keep1 (by omega) e7), Fo.oldCell _ (keep1 (by omega) e8), Fo.oldCell _ (keep1 (by omega) e9), Fo.oldCell _ (keep1 (by omega) y3), Fo.oldCell _ (keep1 (by omega) y7), Fo.oldCell _ (keep1 (by omega) y8)⟩
          | with_reducible exact ⟨keep1 (by omega) e4, keep1 (by omega) e5, keep1 (by omega) e6, keep1 (by omega) e7, keep1 (by omega) e8, keep1 (by omega) e9, keep1 (by omega) y3, keep1 (by omega) y7, keep1 (by omega) y8⟩
          | with_reducible exact ⟨Fo.oldCell _ e4, Fo.oldCell _ e5, Fo.oldCell _ e6, Fo.oldCell _ e7, Fo.oldCell _ e8, Fo.oldCell _ e9, Fo.oldCell _ y3, Fo.oldCell _ y7, Fo.oldCell _ y8⟩
          | go_keep)
        ((go_at_call 83; refine (priceOf_fee 2 b.cat x a b _ (by simp) (HS.out.below (by first | exact hB2 | exact bvia hB2 (dr _))) HFR.out HSD.out.1 HK.out HCAT.out).mono ?_; rintro e w3 ⟨rfl, hb3⟩; have hb23 : Below w2.heap.size w2 w3 := (by first | exact hb3 | exact bvia (dr _) hb3); obtain ⟨e0, e1, e2, e3, e4, e5, e6, e7, e8, e9, e10, e11, e12⟩ := SRow.box (HX2.out.below hb23); obtain ⟨y0, y1, y2, y3, y4, y5, y6, y7, y8, y9, y10⟩ := RowIs.bbox (HY2.out.below hb23); have g10 : w3.frozen? ⟨w.heap.size + 1, 10, none⟩ = false := (HY2.out.below hb23).free 10; have hz3 : w.heap.size + 1 + 1 < w3.heap.size := Nat.lt_of_lt_of_le hz2 hb23.size; have hl0 : w.heap.size < w3.heap.size := (by omega); have hl1 : w.heap.size + 1 < w3.heap.size := (by omega)))
      all_goals
        go_wp2_with fail
        go_meet
        exact fol_meet 2 (bvia hB2 hb23) (HX2.out.below hb23) (HY2.out.below hb23) (HZ2.out.below hb23)
    case rest =>
    obtain ⟨w3, hfa, HX4, HY4⟩ := hcut
    have HFA : Aside (FolAt w w3 wc x a (P.priced 2 x b)) := hfa
    obtain ⟨lv, hlv, hl⟩ := BksAt.pick HS0.out.bks
    have HLV : Aside (lv.map (·.1) = x.bks) := hlv
    have HLE : Aside (BkVsAt w0 a.ao a.cap lv) := hl
    clear hlv hl hfa d0 d1 d2 d3 d4 d5 d6 d7 d8 d9 d10 d11 d12 z0 z1 z2 z3 z4 z5 z6 z7 z8 z9 z10 HX2 HY2 HZ2 HCAT
    have HWC : Aside (Below w.heap.size w wc) := HFA.out.B
    have HPL : Aside (SlAt (RC cellsV) 11 wc a.ao a.cap lv) := BkVsAt.plain (SlAt.below RBkV.mono HLE.out (bvia HB00.out HWC.out))
    obtain ⟨d0, d1, d2, d3, d4, d5, d6, d7, d8, d9, d10, d11, d12⟩ := SRow.box HX4.out
    obtain ⟨z0, z1, z2, z3, z4, z5, z6, z7, z8, z9, z10⟩ := HY4.out.bbox
    go_wp2_with fail
    refine (HWB.out x a lv (P.priced 2 x b) (some ⟨w3.heap.size, 0, none⟩) 1 wc HLV.out HPL.out HE.out HNI.out).mono ?_
    rintro e w5 ⟨G, cap, rfl, own5, hb5⟩
    have HO5 : Aside (OwnB w5 wc.heap.size (.slice (some ⟨G, 0, none⟩) (x.bks.length + 1) cap) (P.insV (P.priced 2 x b, some ⟨w3.heap.size, 0, none⟩, 1) lv)) := own5
    have HB5 : Aside (Below wc.heap.size wc w5) := hb5
    have hs5 := sail_below w5 (P.withB x (P.priced 2 x b)) ⟨a.v, a.lo, a.bo, a.lc, a.bc, some ⟨G, 0, none⟩, cap⟩
    have HR5 : Aside (SRow (W.sail w5 (P.withB x (P.priced 2 x b)) ⟨a.v, a.lo, a.bo, a.lc, a.bc, some ⟨G, 0, none⟩, cap⟩) w5.heap.size (P.withB x (P.priced 2 x b)) ⟨a.v, a.lo, a.bo, a.lc, a.bc, some ⟨G, 0, none⟩, cap⟩) := RowIs.new w5 _ _
    have HZ5 : Aside (RowIs (W.sail w5 (P.withB x (P.priced 2 x b)) ⟨a.v, a.lo, a.bo, a.lc, a.bc, some ⟨G, 0, none⟩, cap⟩) (w.heap.size + 1 + 1) C.zs) := (HFA.out.Z.below hb5).below hs5
    have HS5 : Aside (SailAt (W.sail w5 (P.withB x (P.priced 2 x b)) ⟨a.v, a.lo, a.bo, a.lc, a.bc, some ⟨G, 0, none⟩, cap⟩) (P.withB x (P.priced 2 x b)) ⟨a.v, a.lo, a.bo, a.lc, a.bc, some ⟨G, 0, none⟩, cap⟩) := by
      have hB5' : Below w0.heap.size w0 w5 := bvia HB00.out (bvia HWC.out hb5)
      exact (with_sail' HLV.out own5 (HS0.out.below hB5').ship (HS0.out.below hB5').fare (fun y hy => SlAt.below Fo.REnt.mono (HLE.out.ents y hy) hB5') (SlAt.below Fo.REnt.mono HFA.out.N hb5)).below hs5
    have HPA : Aside (P.shp (P.withB x (P.priced 2 x b)).s = 0 ∧ (∀ b' ∈ (P.withB x (P.priced 2 x b)).bks, P.bkE (P.withB x (P.priced 2 x b)).s b' = 0) ∧ (P.withB x (P.priced 2 x b)).bks.length ≤ 16) := pre_all (sell_pre (by simp) HE.out HM.out).2.1
    have HS5b : Aside (Below w5.heap.size w5 (W.sail w5 (P.withB x (P.priced 2 x b)) ⟨a.v, a.lo, a.bo, a.lc, a.bc, some ⟨G, 0, none⟩, cap⟩)) := hs5
    clear d0 d1 d2 d3 d4 d5 d6 d7 d8 d9 d10 d11 d12 z0 z1 z2 z3 z4 z5 z6 z7 z8 z9 z10 own5 hb5 hs5 HX4 HY4
    go_wp2_with fail
    refine (roomOf_any (P.withB x (P.priced 2 x b)) ⟨a.v, a.lo, a.bo, a.lc, a.bc, some ⟨G, 0, none⟩, cap⟩ _ HS5.out HPA.out.1 HPA.out.2.1 HPA.out.2.2).mono ?_
    rintro e w7 ⟨r, rfl, hr, hb7⟩
    have HRM : Aside (P.Room (P.withB x (P.priced 2 x b)) r) := hr
    have HZ7 : Aside (RowIs w7 (w.heap.size + 1 + 1) C.zs) := HZ5.out.below hb7
    have HR7 : Aside (SRow w7 w5.heap.size (P.withB x (P.priced 2 x b)) ⟨a.v, a.lo, a.bo, a.lc, a.bc, some ⟨G, 0, none⟩, cap⟩) := HR5.out.below hb7
    have HFIN : Aside (∀ w9, w7.grownBy w9 (some (w.heap.size + 1 + 1)) → SailTw w0.heap.size w.heap.size w9 (P.withB x (P.priced 2 x b)) ⟨a.v, a.lo, a.bo, a.lc, a.bc, some ⟨G, 0, none⟩, cap⟩) := fun w9 hg => withB_fin HS0.out HB00.out HLV.out (fun y hy => HLE.out.ents y hy) HFA.out HO5.out HB5.out (bvia HS5b.out hb7) hg
    have HB7 : Aside (Below w.heap.size w w7) := bvia HWC.out (bvia HB5.out (bvia HS5b.out hb7))
    clear hr hb7 HR5 HZ5 HS5
    cases hz : (r != 0)
    rotate_left
    · have HN : Aside (¬ r = 0) := by show ¬ _; simpa using hz
      go_wp2_with ((with_reducible refine wpList_stO (w.heap.size + 1 + 1) C.zs (C.sail P.zeroS A.zeroS) ?_ ?_ ?_ HZ7.out ?_ ?_ ?_); exact Tryz.sizeSail; rfl; rfl; rfl; exact sail_one _ _; intro w9 hr9 hg9)
      exact bodyPost_ret (res2 rfl hr9 _ rfl rfl Tryz.underlying32 rfl Tryz.sizeSail) rfl ⟨r, P.zeroS, A.zeroS, rfl, .inr ⟨HM.out, HRM.out, .inr ⟨HN.out, rfl⟩⟩, SailTw.zero _ _ _, below_gr HB7.out HB7.out.size hg9 (by omega)⟩
    obtain rfl : r = 0 := by simpa using hz
    clear hz
    obtain ⟨d0, d1, d2, d3, d4, d5, d6, d7, d8, d9, d10, d11, d12⟩ := SRow.box HR7.out
    go_wp2_with ((with_reducible refine wpList_stO (w.heap.size + 1 + 1) C.zs (C.sail (P.withB x (P.priced 2 x b)) ⟨a.v, a.lo, a.bo, a.lc, a.bc, some ⟨G, 0, none⟩, cap⟩) ?_ ?_ ?_ HZ7.out ?_ ?_ ?_); exact Tryz.sizeSail; rfl; rfl; rfl; exact sail_one _ _; intro w9 hr9 hg9)
    exact bodyPost_ret (res2 rfl hr9 _ rfl rfl Tryz.underlying32 rfl Tryz.sizeSail) rfl ⟨0, (P.withB x (P.priced 2 x b)), ⟨a.v, a.lo, a.bo, a.lc, a.bc, some ⟨G, 0, none⟩, cap⟩, rfl, .inr ⟨HM.out, HRM.out, .inl ⟨rfl, rfl⟩⟩, HFIN.out w9 hg9, below_gr HB7.out HB7.out.size hg9 (by omega)⟩

end Go.Proofs.YtpjfpgimpgmhcadGreat.St
