/- Package sell: promise, Named, Promise. -/
import Derived.Test.YtpjfpgimpgmhcadGreatSeFo
namespace Go.Proofs.YtpjfpgimpgmhcadGreat.St
open Go.RowKit Bk
set_option linter.unusedSimpArgs false
set_option linter.unusedVariables false
set_option maxRecDepth 10000

set_option maxHeartbeats 16000000 in
theorem promise_sells (x : Sail) (a : SailA) (b : Bkg) (fo : Option Addr) (fc : Nat) (w : World) (hs : SailAt w x a) (hE : P.SailE x 0) (hf : Fo.EntsAt w fo fc b.fol) :
    Calls Tryz.prog 78 #[V.sail x a, V.bk b fo fc] w fun e w' => ∃ r y a', e = .returned (.tuple #[V.sail y a', .int .i64 r]) ∧ P.Sells 2 x b r y ∧ SailUp w.heap.size w' y a' ∧ Below w.heap.size w w' := by
  obtain ⟨hp, hfr, h0, hbks, h16, _⟩ := sail_ok hE
  have HS : Aside (SailAt w x a) := hs
  have HE : Aside (P.SailE x 0) := hE
  have HF : Aside (Fo.EntsAt w fo fc b.fol) := hf
  have H0 : Aside (P.shp x.s = 0) := h0
  have hb0 : Below w.heap.size w (W.sell w x a b fo fc) := bvia (sel_below w x a) (bvia (bk_below _ b fo fc) (by go_grown))
  have HX0 : Aside (SRow (W.sell w x a b fo fc) w.heap.size x a) := ((sel_row w x a).below (bk_below _ b fo fc)).below (by go_grown)
  have HY0 : Aside (RowIs (W.sell w x a b fo fc) (w.heap.size + 1) (C.bk b fo fc)) := by
    have := (RowIs.new (W.sel w x a) (C.bk b fo fc) 42).below (w' := W.sell w x a b fo fc) (by go_grown)
    rwa [World.size_alloc] at this
  have HZ0 : Aside (RowIs (W.sell w x a b fo fc) (w.heap.size + 1 + 1) C.zs) := by
    have := RowIs.new (W.bk (W.sel w x a) b fo fc) C.zs 32
    rwa [World.size_alloc, World.size_alloc] at this
  clear hs hE hf h0 hp hfr hbks
  obtain ⟨z0, z1, z2, z3, z4, z5, z6, z7, z8, z9, z10⟩ := HY0.out.bbox
  go_enter Tryz.func78, Tryz.ntmps78
  go_wp2_with fail
  refine (isSold_any b fo fc 2 _).mono ?_
  rintro e w1 ⟨rfl, hb1⟩
  have hB1 := bvia hb0 hb1
  have HX1 : Aside (SRow w1 w.heap.size x a) := HX0.out.below hb1
  have HY1 : Aside (RowIs w1 (w.heap.size + 1) (C.bk b fo fc)) := HY0.out.below hb1
  have HZ1 : Aside (RowIs w1 (w.heap.size + 1 + 1) C.zs) := HZ0.out.below hb1
  clear z0 z1 z2 z3 z4 z5 z6 z7 z8 z9 z10 HX0 HY0 HZ0 hb0 hb1
  cases hsd : P.sold b 2
  · have HM : Aside (P.sellE 2 x b = 7) := sold_not hsd
    go_wp2_with (refine wpList_stC rfl 32 _ _ (by rfl) (w.heap.size + 1 + 1) C.zs (C.sail P.zeroS A.zeroS) Tryz.sizeSail (by rfl) (by rfl) HZ1.out rfl (sail_one _ _) ?_; intro w9 hr9 hg9)
    exact bodyPost_ret (res2 rfl hr9 _ rfl rfl Tryz.underlying32 rfl Tryz.sizeSail) rfl ⟨7, P.zeroS, A.zeroS, rfl, .inl ⟨by rw [HM.out]; decide, HM.out.symm, rfl⟩, SailUp.zero _ _, below_gr hB1 hB1.size hg9 (by omega)⟩
  have HSD : Aside (b.kind = 2 ∧ b.state ≠ 3) := sold_yes hsd
  clear hsd
  have z10 := HY1.out.cell 10
  have z5 := HY1.out.cell 5
  by_cases hfo : 0 < b.fol.length
  · have HM : Aside (P.sellE 2 x b = 1) := by show _ = _; rw [P.sellE, if_pos HSD.out, if_pos (.inl hfo)]
    have hfo2 : (0 : Int) < (b.fol.length : Int) := by omega
    go_wp2_with (refine wpList_stC rfl 32 _ _ (by rfl) (w.heap.size + 1 + 1) C.zs (C.sail P.zeroS A.zeroS) Tryz.sizeSail (by rfl) (by rfl) HZ1.out rfl (sail_one _ _) ?_; intro w9 hr9 hg9)
    exact bodyPost_ret (res2 rfl hr9 _ rfl rfl Tryz.underlying32 rfl Tryz.sizeSail) rfl ⟨1, P.zeroS, A.zeroS, rfl, .inl ⟨by rw [HM.out]; decide, HM.out.symm, rfl⟩, SailUp.zero _ _, below_gr hB1 hB1.size hg9 (by omega)⟩
  have hfo2 : ¬ (0 : Int) < (b.fol.length : Int) := by omega
  have HFO0 : Aside (b.fol.length = 0) := by show _ = _; omega
  have hd0 : decide (0 < b.fol.length) = false := by simpa using hfo
  clear hfo
  cases hcb : (b.cabin != -1)
  rotate_left
  · have HM : Aside (P.sellE 2 x b = 1) := by show _ = _; rw [P.sellE, if_pos HSD.out, if_pos (.inr ⟨rfl, by simpa using hcb⟩)]
    go_wp2_with (refine wpList_stC rfl 32 _ _ (by rfl) (w.heap.size + 1 + 1) C.zs (C.sail P.zeroS A.zeroS) Tryz.sizeSail (by rfl) (by rfl) HZ1.out rfl (sail_one _ _) ?_; intro w9 hr9 hg9)
    exact bodyPost_ret (res2 rfl hr9 _ rfl rfl Tryz.underlying32 rfl Tryz.sizeSail) rfl ⟨1, P.zeroS, A.zeroS, rfl, .inl ⟨by rw [HM.out]; decide, HM.out.symm, rfl⟩, SailUp.zero _ _, below_gr hB1 hB1.size hg9 (by omega)⟩
  clear hd0
  have hd0 : decide (0 < b.fol.length) = false := by rw [HFO0.out]; rfl
  have HCB : Aside (b.cabin = -1) := by show _ = _; simpa using hcb
  obtain ⟨d0, d1, d2, d3, d4, d5, d6, d7, d8, d9, d10, d11, d12⟩ := SRow.box HX1.out
  clear z10 z5
  obtain ⟨z0, z1, z2, z3, z4, z5, z6, z7, z8, z9, z10⟩ := HY1.out.bbox
  go_wp2_with fail
  refine (bkC_any x a b fo fc _ (HS.out.below hB1).ship (SlAt.below Fo.REnt.mono HF.out hB1) H0.out).mono ?_
  rintro e w2 ⟨rfl, hb2⟩
  have hB2 := bvia hB1 hb2
  have HX2 : Aside (SRow w2 w.heap.size x a) := HX1.out.below hb2
  have HY2 : Aside (RowIs w2 (w.heap.size + 1) (C.bk b fo fc)) := HY1.out.below hb2
  have HZ2 : Aside (RowIs w2 (w.heap.size + 1 + 1) C.zs) := HZ1.out.below hb2
  clear d0 d1 d2 d3 d4 d5 d6 d7 d8 d9 d10 d11 d12 z0 z1 z2 z3 z4 z5 z6 z7 z8 z9 z10 HX1 HY1 HZ1 hb2 hB1 hfo2 hcb hd0
  cases hk : (P.bkE x.s b != 0)
  rotate_left
  · have HN : Aside (¬ P.bkE x.s b = 0) := by show ¬ _; simpa using hk
    have HM : Aside (P.sellE 2 x b = P.bkE x.s b) := by show _ = _; rw [P.sellE, if_pos HSD.out, if_neg (fun h => h.elim (fun h => by have := HFO0.out; omega) (fun h => h.2 HCB.out)), if_neg HN.out]
    go_wp2_with (refine wpList_stC rfl 32 _ _ (by rfl) (w.heap.size + 1 + 1) C.zs (C.sail P.zeroS A.zeroS) Tryz.sizeSail (by rfl) (by rfl) HZ2.out rfl (sail_one _ _) ?_; intro w9 hr9 hg9)
    exact bodyPost_ret (res2 rfl hr9 _ rfl rfl Tryz.underlying32 rfl Tryz.sizeSail) rfl ⟨_, P.zeroS, A.zeroS, rfl, .inl ⟨by rw [HM.out]; exact HN.out, HM.out.symm, rfl⟩, SailUp.zero _ _, below_gr hB2 hB2.size hg9 (by omega)⟩
  have HK : Aside (P.bkE x.s b = 0) := by show _ = _; simpa using hk
  have HL : Aside (P.sellE 2 x b = P.lateE 2 x b) := by show _ = _; rw [P.sellE, if_pos HSD.out, if_neg (fun h => h.elim (fun h => by have := HFO0.out; omega) (fun h => h.2 HCB.out)), if_pos HK.out]
  clear hk
  rw [HK.out]
  obtain ⟨d0, d1, d2, d3, d4, d5, d6, d7, d8, d9, d10, d11, d12⟩ := SRow.box HX2.out
  go_wp2_with fail
  refine (hasLeft_any x a _).mono ?_
  rintro e w3 ⟨rfl, hb3⟩
  have hB3 := bvia hB2 hb3
  have HX3 : Aside (SRow w3 w.heap.size x a) := HX2.out.below hb3
  have HY3 : Aside (RowIs w3 (w.heap.size + 1) (C.bk b fo fc)) := HY2.out.below hb3
  have HZ3 : Aside (RowIs w3 (w.heap.size + 1 + 1) C.zs) := HZ2.out.below hb3
  clear d0 d1 d2 d3 d4 d5 d6 d7 d8 d9 d10 d11 d12 HX2 HY2 HZ2 hb3 hB2
  by_cases hl : x.lvs ≤ x.day
  · have HM : Aside (P.sellE 2 x b = 4) := by show _ = _; rw [HL.out, P.lateE, if_pos (.inl (.inl hl))]
    have hld : decide (x.lvs ≤ x.day) = true := by simpa using hl
    rw [hld]
    go_wp2_with (refine wpList_stC rfl 32 _ _ (by rfl) (w.heap.size + 1 + 1) C.zs (C.sail P.zeroS A.zeroS) Tryz.sizeSail (by rfl) (by rfl) HZ3.out rfl (sail_one _ _) ?_; intro w9 hr9 hg9)
    exact bodyPost_ret (res2 rfl hr9 _ rfl rfl Tryz.underlying32 rfl Tryz.sizeSail) rfl ⟨4, P.zeroS, A.zeroS, rfl, .inl ⟨by rw [HM.out]; decide, HM.out.symm, rfl⟩, SailUp.zero _ _, below_gr hB3 hB3.size hg9 (by omega)⟩
  have HLV : Aside (¬ x.lvs ≤ x.day) := hl
  have hld : decide (x.lvs ≤ x.day) = false := by simpa using hl
  rw [hld]
  clear hl hld
  obtain ⟨d0, d1, d2, d3, d4, d5, d6, d7, d8, d9, d10, d11, d12⟩ := SRow.box HX3.out
  obtain ⟨z0, z1, z2, z3, z4, z5, z6, z7, z8, z9, z10⟩ := HY3.out.bbox
  go_wp2_with fail
  refine (mayWait_any x a b fo fc _).mono ?_
  rintro e w4 ⟨rfl, hb4⟩
  have hB4 := bvia hB3 hb4
  have HX4 : Aside (SRow w4 w.heap.size x a) := HX3.out.below hb4
  have HY4 : Aside (RowIs w4 (w.heap.size + 1) (C.bk b fo fc)) := HY3.out.below hb4
  have HZ4 : Aside (RowIs w4 (w.heap.size + 1 + 1) C.zs) := HZ3.out.below hb4
  clear d0 d1 d2 d3 d4 d5 d6 d7 d8 d9 d10 d11 d12 z0 z1 z2 z3 z4 z5 z6 z7 z8 z9 z10 HX3 HY3 HZ3 hb4 hB3
  cases hw : P.waits x b
  · have HM : Aside (P.sellE 2 x b = 4) := by show _ = _; rw [HL.out, P.lateE, if_pos (.inl (.inr hw))]
    go_wp2_with (refine wpList_stC rfl 32 _ _ (by rfl) (w.heap.size + 1 + 1) C.zs (C.sail P.zeroS A.zeroS) Tryz.sizeSail (by rfl) (by rfl) HZ4.out rfl (sail_one _ _) ?_; intro w9 hr9 hg9)
    exact bodyPost_ret (res2 rfl hr9 _ rfl rfl Tryz.underlying32 rfl Tryz.sizeSail) rfl ⟨4, P.zeroS, A.zeroS, rfl, .inl ⟨by rw [HM.out]; decide, HM.out.symm, rfl⟩, SailUp.zero _ _, below_gr hB4 hB4.size hg9 (by omega)⟩
  have d12 := HX4.out.cell 12
  have HWA : Aside (P.waits x b = true) := hw
  clear hw
  cases hcl : x.cl
  rotate_left
  · have HM : Aside (P.sellE 2 x b = 4) := by show _ = _; rw [HL.out, P.lateE, if_pos (.inr ⟨rfl, hcl⟩)]
    have d12' : w4.cell? ⟨w.heap.size, 12, none⟩ = some (.bool true) := by rw [← hcl]; exact d12
    clear d12
    go_wp2_with (refine wpList_stC rfl 32 _ _ (by rfl) (w.heap.size + 1 + 1) C.zs (C.sail P.zeroS A.zeroS) Tryz.sizeSail (by rfl) (by rfl) HZ4.out rfl (sail_one _ _) ?_; intro w9 hr9 hg9)
    exact bodyPost_ret (res2 rfl hr9 _ rfl rfl Tryz.underlying32 rfl Tryz.sizeSail) rfl ⟨4, P.zeroS, A.zeroS, rfl, .inl ⟨by rw [HM.out]; decide, HM.out.symm, rfl⟩, SailUp.zero _ _, below_gr hB4 hB4.size hg9 (by omega)⟩
  have d12' : w4.cell? ⟨w.heap.size, 12, none⟩ = some (.bool false) := by rw [← hcl]; exact d12
  have HCL : Aside (x.cl = false) := hcl
  have HM : Aside (P.sellE 2 x b = P.midE x b) := by
    show _ = _
    rw [HL.out, P.lateE, if_neg (fun h => h.elim (fun h => h.elim (Int.not_le.2 HLV.out) (fun h => by rw [HWA.out] at h; cases h)) (fun h => by rw [HCL.out] at h; cases h.2))]
    rfl
  have HCAT : Aside (P.catOf 2 x b = b.cat) := by show _ = _; rw [P.catOf, if_neg (by decide)]
  have HX4' : Aside (SBox w4 w.heap.size x a) := SRow.box HX4.out
  clear d12 hcl
  obtain ⟨d0, d1, d2, d3, d4, d5, d6, d7, d8, d9, d10, d11, -⟩ := HX4'.out
  obtain ⟨z0, z1, z2, z3, z4, z5, z6, z7, z8, z9, z10⟩ := HY4.out.bbox
  go_wp2_with fail
  refine (sell_arg _ 2 x a b fo fc b.cat _ (by simp only [V.sail, HCL.out]) (.inr rfl) (HS.out.below hB4) HE.out HSD.out.1 HK.out HM.out HCAT.out).mono ?_
  rintro e w5 ⟨r, y, a5, rfl, hS5, hU5, hb5⟩
  have HS5 : Aside (P.Sells 2 x b r y) := hS5
  have HU5 : Aside (SailUp w4.heap.size w5 y a5) := hU5
  have HZ5 : Aside (RowIs w5 (w.heap.size + 1 + 1) C.zs) := HZ4.out.below hb5
  have hB5 := bvia hB4 hb5
  have hlt4 : w.heap.size + 1 + 1 < w4.heap.size := HZ4.out.lt
  clear d0 d1 d2 d3 d4 d5 d6 d7 d8 d9 d10 d11 d12' z0 z1 z2 z3 z4 z5 z6 z7 z8 z9 z10 hS5 hU5 hb5
  go_wp2_with (refine wpList_stC rfl 32 _ _ (by rfl) (w.heap.size + 1 + 1) C.zs (C.sail y a5) Tryz.sizeSail (by rfl) (by rfl) HZ5.out rfl (sail_one _ _) ?_; intro w9 hr9 hg9)
  exact bodyPost_ret (res2 rfl hr9 _ rfl rfl Tryz.underlying32 rfl Tryz.sizeSail) rfl ⟨r, y, a5, rfl, HS5.out, SailUp.mono (SailUp.up HU5.out (Up.gr hg9 hlt4)) (by omega), below_gr hB5 hB5.size hg9 (by omega)⟩

set_option maxHeartbeats 4000000 in
theorem sellNamed_any (x : Sail) (a : SailA) (b : Bkg) (fo : Option Addr) (fc : Nat) (w : World) (hs : SailAt w x a) (hf : Fo.EntsAt w fo fc b.fol) :
    Calls Tryz.prog 27 #[V.sail x a, V.bk b fo fc] w fun e w' => ∃ r y a', e = .returned (.tuple #[V.sail y a', .int .i64 r]) ∧ P.SellS 1 x b r y ∧ SailUp w.heap.size w' y a' ∧ Below w.heap.size w w' := by
  have hb0 : Below w.heap.size w ((W.bk (W.sail w x a) b fo fc).alloc O.zs) := bvia (sail_below w x a) (bvia (bk_below _ b fo fc) (by go_grown))
  have HX0 : Aside (SRow ((W.bk (W.sail w x a) b fo fc).alloc O.zs) w.heap.size x a) := ((RowIs.new w _ _ : SRow (W.sail w x a) w.heap.size x a).below (bk_below _ b fo fc)).below (by go_grown)
  have HY0 : Aside (RowIs ((W.bk (W.sail w x a) b fo fc).alloc O.zs) (w.heap.size + 1) (C.bk b fo fc)) := by
    have := (RowIs.new (W.sail w x a) (C.bk b fo fc) 42).below (w' := (W.bk (W.sail w x a) b fo fc).alloc O.zs) (by go_grown)
    rwa [World.size_alloc] at this
  have HZ0 : Aside (RowIs ((W.bk (W.sail w x a) b fo fc).alloc O.zs) (w.heap.size + 1 + 1) C.zs) := by
    have := RowIs.new (W.bk (W.sail w x a) b fo fc) C.zs 32
    rwa [World.size_alloc, World.size_alloc] at this
  have HS : Aside (SailAt w x a) := hs
  have HF : Aside (Fo.EntsAt w fo fc b.fol) := hf
  clear hs hf
  obtain ⟨d0, d1, d2, d3, d4, d5, d6, d7, d8, d9, d10, d11, d12⟩ := SRow.box HX0.out
  go_enter Tryz.func27, Tryz.ntmps27
  go_wp2_with fail
  refine (stockCheck_any x a _ (HS.out.below hb0)).mono ?_
  rintro e w1 ⟨q, rfl, hq, hb1⟩
  have HQ : Aside (P.SailE x q) := hq
  have hB1 := bvia hb0 hb1
  have HX1 : Aside (SRow w1 w.heap.size x a) := HX0.out.below hb1
  have HY1 : Aside (RowIs w1 (w.heap.size + 1) (C.bk b fo fc)) := HY0.out.below hb1
  have HZ1 : Aside (RowIs w1 (w.heap.size + 1 + 1) C.zs) := HZ0.out.below hb1
  clear d0 d1 d2 d3 d4 d5 d6 d7 d8 d9 d10 d11 d12 HX0 HY0 HZ0 hb0 hb1 hq
  cases hz : (q != 0)
  rotate_left
  · have HN : Aside (¬ q = 0) := by show ¬ _; simpa using hz
    go_wp2_with (refine wpList_stC rfl 32 _ _ (by rfl) (w.heap.size + 1 + 1) C.zs (C.sail P.zeroS A.zeroS) Tryz.sizeSail (by rfl) (by rfl) HZ1.out rfl (sail_one _ _) ?_; intro w9 hr9 hg9)
    exact bodyPost_ret (res2 rfl hr9 _ rfl rfl Tryz.underlying32 rfl Tryz.sizeSail) rfl ⟨q, P.zeroS, A.zeroS, rfl, .inl ⟨q, HQ.out, HN.out, rfl, rfl⟩, SailUp.zero _ _, below_gr hB1 hB1.size hg9 (by omega)⟩
  obtain rfl : q = 0 := by simpa using hz
  clear hz
  obtain ⟨d0, d1, d2, d3, d4, d5, d6, d7, d8, d9, d10, d11, d12⟩ := SRow.box HX1.out
  obtain ⟨z0, z1, z2, z3, z4, z5, z6, z7, z8, z9, z10⟩ := HY1.out.bbox
  go_wp2_with fail
  refine (named_sells x a b fo fc _ (HS.out.below hB1) HQ.out (SlAt.below Fo.REnt.mono HF.out hB1)).mono ?_
  rintro e w2 ⟨r, y, a2, rfl, hS2, hU2, hb2⟩
  have HS2 : Aside (P.Sells 1 x b r y) := hS2
  have HU2 : Aside (SailUp w1.heap.size w2 y a2) := hU2
  have HZ2 : Aside (RowIs w2 (w.heap.size + 1 + 1) C.zs) := HZ1.out.below hb2
  have hB2 := bvia hB1 hb2
  have hlt1 : w.heap.size + 1 + 1 < w1.heap.size := HZ1.out.lt
  clear d0 d1 d2 d3 d4 d5 d6 d7 d8 d9 d10 d11 d12 z0 z1 z2 z3 z4 z5 z6 z7 z8 z9 z10 hS2 hU2 hb2
  go_wp2_with (refine wpList_stC rfl 32 _ _ (by rfl) (w.heap.size + 1 + 1) C.zs (C.sail y a2) Tryz.sizeSail (by rfl) (by rfl) HZ2.out rfl (sail_one _ _) ?_; intro w9 hr9 hg9)
  exact bodyPost_ret (res2 rfl hr9 _ rfl rfl Tryz.underlying32 rfl Tryz.sizeSail) rfl ⟨r, y, a2, rfl, .inr ⟨HQ.out, HS2.out⟩, SailUp.mono (SailUp.up HU2.out (Up.gr hg9 hlt1)) (by omega), below_gr hB2 hB2.size hg9 (by omega)⟩

set_option maxHeartbeats 4000000 in
theorem sellPromise_any (x : Sail) (a : SailA) (b : Bkg) (fo : Option Addr) (fc : Nat) (w : World) (hs : SailAt w x a) (hf : Fo.EntsAt w fo fc b.fol) :
    Calls Tryz.prog 28 #[V.sail x a, V.bk b fo fc] w fun e w' => ∃ r y a', e = .returned (.tuple #[V.sail y a', .int .i64 r]) ∧ P.SellS 2 x b r y ∧ SailUp w.heap.size w' y a' ∧ Below w.heap.size w w' := by
  have hb0 : Below w.heap.size w ((W.bk (W.sail w x a) b fo fc).alloc O.zs) := bvia (sail_below w x a) (bvia (bk_below _ b fo fc) (by go_grown))
  have HX0 : Aside (SRow ((W.bk (W.sail w x a) b fo fc).alloc O.zs) w.heap.size x a) := ((RowIs.new w _ _ : SRow (W.sail w x a) w.heap.size x a).below (bk_below _ b fo fc)).below (by go_grown)
  have HY0 : Aside (RowIs ((W.bk (W.sail w x a) b fo fc).alloc O.zs) (w.heap.size + 1) (C.bk b fo fc)) := by
    have := (RowIs.new (W.sail w x a) (C.bk b fo fc) 42).below (w' := (W.bk (W.sail w x a) b fo fc).alloc O.zs) (by go_grown)
    rwa [World.size_alloc] at this
  have HZ0 : Aside (RowIs ((W.bk (W.sail w x a) b fo fc).alloc O.zs) (w.heap.size + 1 + 1) C.zs) := by
    have := RowIs.new (W.bk (W.sail w x a) b fo fc) C.zs 32
    rwa [World.size_alloc, World.size_alloc] at this
  have HS : Aside (SailAt w x a) := hs
  have HF : Aside (Fo.EntsAt w fo fc b.fol) := hf
  clear hs hf
  obtain ⟨d0, d1, d2, d3, d4, d5, d6, d7, d8, d9, d10, d11, d12⟩ := SRow.box HX0.out
  go_enter Tryz.func28, Tryz.ntmps28
  go_wp2_with fail
  refine (stockCheck_any x a _ (HS.out.below hb0)).mono ?_
  rintro e w1 ⟨q, rfl, hq, hb1⟩
  have HQ : Aside (P.SailE x q) := hq
  have hB1 := bvia hb0 hb1
  have HX1 : Aside (SRow w1 w.heap.size x a) := HX0.out.below hb1
  have HY1 : Aside (RowIs w1 (w.heap.size + 1) (C.bk b fo fc)) := HY0.out.below hb1
  have HZ1 : Aside (RowIs w1 (w.heap.size + 1 + 1) C.zs) := HZ0.out.below hb1
  clear d0 d1 d2 d3 d4 d5 d6 d7 d8 d9 d10 d11 d12 HX0 HY0 HZ0 hb0 hb1 hq
  cases hz : (q != 0)
  rotate_left
  · have HN : Aside (¬ q = 0) := by show ¬ _; simpa using hz
    go_wp2_with (refine wpList_stC rfl 32 _ _ (by rfl) (w.heap.size + 1 + 1) C.zs (C.sail P.zeroS A.zeroS) Tryz.sizeSail (by rfl) (by rfl) HZ1.out rfl (sail_one _ _) ?_; intro w9 hr9 hg9)
    exact bodyPost_ret (res2 rfl hr9 _ rfl rfl Tryz.underlying32 rfl Tryz.sizeSail) rfl ⟨q, P.zeroS, A.zeroS, rfl, .inl ⟨q, HQ.out, HN.out, rfl, rfl⟩, SailUp.zero _ _, below_gr hB1 hB1.size hg9 (by omega)⟩
  obtain rfl : q = 0 := by simpa using hz
  clear hz
  obtain ⟨d0, d1, d2, d3, d4, d5, d6, d7, d8, d9, d10, d11, d12⟩ := SRow.box HX1.out
  obtain ⟨z0, z1, z2, z3, z4, z5, z6, z7, z8, z9, z10⟩ := HY1.out.bbox
  go_wp2_with fail
  refine (promise_sells x a b fo fc _ (HS.out.below hB1) HQ.out (SlAt.below Fo.REnt.mono HF.out hB1)).mono ?_
  rintro e w2 ⟨r, y, a2, rfl, hS2, hU2, hb2⟩
  have HS2 : Aside (P.Sells 2 x b r y) := hS2
  have HU2 : Aside (SailUp w1.heap.size w2 y a2) := hU2
  have HZ2 : Aside (RowIs w2 (w.heap.size + 1 + 1) C.zs) := HZ1.out.below hb2
  have hB2 := bvia hB1 hb2
  have hlt1 : w.heap.size + 1 + 1 < w1.heap.size := HZ1.out.lt
  clear d0 d1 d2 d3 d4 d5 d6 d7 d8 d9 d10 d11 d12 z0 z1 z2 z3 z4 z5 z6 z7 z8 z9 z10 hS2 hU2 hb2
  go_wp2_with (refine wpList_stC rfl 32 _ _ (by rfl) (w.heap.size + 1 + 1) C.zs (C.sail y a2) Tryz.sizeSail (by rfl) (by rfl) HZ2.out rfl (sail_one _ _) ?_; intro w9 hr9 hg9)
  exact bodyPost_ret (res2 rfl hr9 _ rfl rfl Tryz.underlying32 rfl Tryz.sizeSail) rfl ⟨r, y, a2, rfl, .inr ⟨HQ.out, HS2.out⟩, SailUp.mono (SailUp.up HU2.out (Up.gr hg9 hlt1)) (by omega), below_gr hB2 hB2.size hg9 (by omega)⟩

end Go.Proofs.YtpjfpgimpgmhcadGreat.St
namespace Go.Proofs.YtpjfpgimpgmhcadGreat.St
open Go.RowKit Bk
set_option linter.unusedSimpArgs false
set_option linter.unusedVariables false
set_option maxRecDepth 10000

/-- The least number that is not there. -/
structure LeastIs (l : List Bkg) (n : Int) : Prop where
  pos : 1 ≤ n
  all : ∀ m, 1 ≤ m → m < n → P.isIn m l = true
  out : P.isIn n l = false
theorem LeastIs.one {l : List Bkg} {n m : Int} (h : LeastIs l n) (k : LeastIs l m) : n = m := by
  rcases Int.lt_trichotomy n m with hlt | rfl | hlt
  · have := k.all n h.pos hlt
    rw [h.out] at this
    cases this
  · rfl
  · have := h.all m k.pos hlt
    rw [k.out] at this
    cases this
theorem isIn_snoc (m : Int) (l : List Bkg) (y : Bkg) : P.isIn m (l ++ [y]) = (P.isIn m l || decide (y.id = m)) := by
  simp [P.isIn, List.any_append]

set_option maxHeartbeats 2000000 in
theorem unused_any (x : Sail) (a : SailA) (w : World) (hs : SailAt w x a) (h16 : x.bks.length ≤ 1000) (hr : x.bks.Pairwise (fun a b => a.id < b.id)) :
    Calls Tryz.prog 82 #[V.sail x a] w fun e w' => ∃ n : Int, e = .returned (.int .i64 n) ∧ LeastIs x.bks n ∧ Below w.heap.size w w' := by
  have hle := hs.bks.le
  have hmx := hs.bks.max
  unfold maxLen at hmx
  have hb0 := sel_below w x a
  have hbx : SBox (W.sel w x a) w.heap.size x a := SRow.box (sel_row w x a)
  obtain ⟨d0, d1, d2, d3, d4, d5, d6, d7, d8, d9, d10, d11, d12⟩ := hbx
  have HR : Aside (x.bks.Pairwise (fun a b => a.id < b.id)) := hr
  clear hr
  go_enter Tryz.func82, Tryz.ntmps82
  go_wp2
  clear d0 d1 d2 d3 d4 d5 d6 d7 d8 d9 d10 d11 d12
  go_loopg [3, 10] x.bks.length (fun g nv iv wr => ∃ (k : Nat) (n : Nat), k ≤ x.bks.length ∧ g = x.bks.length - k ∧ iv = .int .i64 k ∧ nv = .int .i64 n ∧ n ≤ k + 1 ∧ Aside (LeastIs (x.bks.take k) n) ∧ Below w.heap.size w wr)
  case atStart => exact ⟨0, 1, Nat.zero_le _, rfl, rfl, rfl, by omega, ⟨by decide, fun m h1 h2 => by have h2 : m < 1 := h2; omega, rfl⟩, hb0⟩
  case round =>
    clear hb0
    obtain ⟨k, n, hk, rfl, rfl, rfl, hnk, HL, hB⟩ := hrel
    by_cases hlt : k < x.bks.length
    · obtain ⟨b, off, y, fo, fc, hao, hbw, hd, ⟨y0, y1, y2, y3, y4, y5, y6, y7, y8, y9, y10⟩, hfy⟩ := BksAt.get hs.bks hB k hlt
      have HAO : Aside (a.ao = some ⟨b, off, none⟩) := hao
      rw [hao]
      have hkl : (k : Int) < x.bks.length := by omega
      have ht : x.bks.take (k + 1) = x.bks.take k ++ [y] := take_snoc' hlt hd
      have hba := bk_below wr y fo fc
      cases hy : (y.id == (n : Int))
      · have HL2 : Aside (LeastIs (x.bks.take (k + 1)) n) := by
          have hne : y.id ≠ (n : Int) := by simpa using hy
          obtain ⟨h1, h2, h3⟩ := HL.out
          rw [ht]
          exact ⟨h1, fun m hm1 hm2 => by rw [isIn_snoc, h2 m hm1 hm2]; rfl, by rw [isIn_snoc, h3]; simp [hne]⟩
        clear HL ht hd hao hfy
        go_wp2
        rw [← HAO.out]
        go_roundg (x.bks.length - (k + 1))
        case measure => omega
        case rel => exact ⟨k + 1, n, by omega, rfl, by go_num, rfl, by omega, HL2, bvia hB hba⟩
      · have HL2 : Aside (LeastIs (x.bks.take (k + 1)) ((n + 1 : Nat) : Int)) := by
          have he : y.id = (n : Int) := by simpa using hy
          obtain ⟨h1, h2, h3⟩ := HL.out
          have hlow : ∀ z ∈ x.bks.take k, z.id < (n : Int) := fun z hz => by
            have hr := HR.out
            rw [← List.take_append_drop k x.bks, List.pairwise_append, hd] at hr
            have := hr.2.2 z hz y (by simp)
            omega
          rw [ht]
          refine ⟨by omega, fun m hm1 hm2 => ?_, ?_⟩
          · rw [isIn_snoc]
            rcases Int.lt_or_le m n with h | h
            · rw [h2 m hm1 h]; rfl
            · have : m = (n : Int) := by omega
              simp [he, this]
          · rw [isIn_snoc]
            have : P.isIn ((n + 1 : Nat) : Int) (x.bks.take k) = false := List.any_eq_false.2 (fun z hz => by have := hlow z hz; simp; omega)
            rw [this]
            simp [he]
            omega
        clear HL ht hd hao hfy
        go_wp2
        rw [← HAO.out]
        go_roundg (x.bks.length - (k + 1))
        case measure => omega
        case rel => exact ⟨k + 1, n + 1, by omega, rfl, by go_num, by go_num, by omega, HL2, bvia hB hba⟩
    · obtain rfl : k = x.bks.length := by omega
      have HL2 : Aside (LeastIs x.bks n) := by
        have := HL.out
        rwa [List.take_of_length_le (Nat.le_refl _)] at this
      go_wp2
      go_ret
      exact ⟨n, rfl, HL2.out, hB⟩

/-- In another cabin. -/
def P.setC (b : Bkg) (c : Int) : Bkg := ⟨b.id, b.kind, b.state, b.guests, b.level, c, b.cat, b.frm, b.to, b.til, b.fol⟩
/-- I2: the cabins, of the first n, that would be sold. -/
structure OffIs (x : Sail) (b : Bkg) (n : Nat) (l : List Int) : Prop where
  up : l.Pairwise (· < ·)
  lo : ∀ z ∈ l, 0 ≤ z ∧ z < n
  iff : ∀ c : Nat, c < n → ((c : Int) ∈ l ↔ ∃ y, P.Sells 1 x (P.setC b c) 0 y)
theorem OffIs.nil (x : Sail) (b : Bkg) : OffIs x b 0 [] := ⟨by simp, by simp, fun c hc => by omega⟩
theorem OffIs.hit {x : Sail} {b : Bkg} {n : Nat} {l : List Int} {y : Sail} (h : OffIs x b n l) (hy : P.Sells 1 x (P.setC b n) 0 y) : OffIs x b (n + 1) (l ++ [(n : Int)]) := by
  refine ⟨List.pairwise_append.2 ⟨h.up, by simp, fun a ha c hc => ?_⟩, fun z hz => ?_, fun c hc => ?_⟩
  · simp at hc
    subst hc
    exact (h.lo a ha).2
  · rcases List.mem_append.1 hz with hz | hz
    · have := h.lo z hz; omega
    · simp at hz; omega
  · rw [List.mem_append]
    rcases Nat.lt_or_ge c n with h1 | h1
    · rw [h.iff c h1]
      constructor
      · rintro (h2 | h2)
        · exact h2
        · simp at h2; omega
      · exact .inl
    · obtain rfl : c = n := by omega
      exact ⟨fun _ => ⟨y, hy⟩, fun _ => .inr (by simp)⟩
theorem OffIs.miss {x : Sail} {b : Bkg} {n : Nat} {l : List Int} {r : Int} {y : Sail} (h : OffIs x b n l) (hy : P.Sells 1 x (P.setC b n) r y) (hr : ¬ r = 0) : OffIs x b (n + 1) l := by
  refine ⟨h.up, fun z hz => ?_, fun c hc => ?_⟩
  · have := h.lo z hz; omega
  · rcases Nat.lt_or_ge c n with h1 | h1
    · exact h.iff c h1
    · obtain rfl : c = n := by omega
      refine ⟨fun h2 => ?_, fun ⟨y', h2⟩ => ?_⟩
      · have := (h.lo _ h2).2; omega
      · exact absurd (Sells.one hy h2).1 hr
theorem sorted_ext {a b : List Int} (ha : a.Pairwise (· < ·)) (hb : b.Pairwise (· < ·)) (h : ∀ z, z ∈ a ↔ z ∈ b) : a = b := by
  induction a generalizing b with
  | nil =>
    cases b with
    | nil => rfl
    | cons y t => exact absurd ((h y).2 (by simp)) (by simp)
  | cons x s ih =>
    cases b with
    | nil => exact absurd ((h x).1 (by simp)) (by simp)
    | cons y t =>
      obtain ⟨a1, a2⟩ := List.pairwise_cons.1 ha
      obtain ⟨b1, b2⟩ := List.pairwise_cons.1 hb
      have hxy : x = y := by
        rcases List.mem_cons.1 ((h x).1 (by simp)) with e | hx
        · exact e
        · rcases List.mem_cons.1 ((h y).2 (by simp)) with e | hy
          · exact e.symm
          · have := a1 y hy; have := b1 x hx; omega
      subst hxy
      congr 1
      refine ih a2 b2 (fun z => ?_)
      have hz := h z
      simp only [List.mem_cons] at hz
      constructor
      · intro hs
        rcases hz.1 (.inr hs) with e | ht
        · have := a1 z hs; omega
        · exact ht
      · intro ht
        rcases hz.2 (.inr ht) with e | hs
        · have := b1 z ht; omega
        · exact hs
theorem OffIs.one {x : Sail} {b : Bkg} {n : Nat} {l l' : List Int} (h : OffIs x b n l) (h' : OffIs x b n l') : l = l' := by
  refine sorted_ext h.up h'.up (fun z => ?_)
  constructor
  · intro hz
    have hb := h.lo z hz
    obtain ⟨c, rfl⟩ : ∃ c : Nat, z = c := ⟨z.toNat, by omega⟩
    exact (h'.iff c (by omega)).2 ((h.iff c (by omega)).1 hz)
  · intro hz
    have hb := h'.lo z hz
    obtain ⟨c, rfl⟩ : ∃ c : Nat, z = c := ⟨z.toNat, by omega⟩
    exact (h.iff c (by omega)).2 ((h'.iff c (by omega)).1 hz)
theorem OffIs.len {x : Sail} {b : Bkg} {n : Nat} {l : List Int} (h : OffIs x b n l) : l.length ≤ n := by
  have hnd : l.Nodup := by
    rw [List.nodup_iff_pairwise_ne]
    exact (List.pairwise_iff_getElem.2 fun i j hi hj hij => by have := List.pairwise_iff_getElem.1 h.up i j hi hj hij; omega)
  exact Ma.pigeon n l hnd (fun z hz => h.lo z hz)

set_option maxHeartbeats 8000000 in
theorem offers_own (x : Sail) (a : SailA) (b : Bkg) (fo : Option Addr) (fc : Nat) (w : World) (hs : SailAt w x a) (hE : P.SailE x 0) (hf : Fo.EntsAt w fo fc b.fol) :
    Calls Tryz.prog 81 #[V.sail x a, V.bk b fo fc] w fun e w' => ∃ v l, e = .returned v ∧ OwnJ w' w.heap.size v l ∧ OffIs x b x.s.bs.length l ∧ Below w.heap.size w w' := by
  obtain ⟨_, _, h0, _⟩ := sail_ok hE
  have hbs := (shp_size h0).2.2.2.2.2.2.2
  have HS : Aside (SailAt w x a) := hs
  have HE : Aside (P.SailE x 0) := hE
  have HF : Aside (Fo.EntsAt w fo fc b.fol) := hf
  have hb0 : Below w.heap.size w (W.bk (W.sel w x a) b fo fc) := bvia (sel_below w x a) (bk_below _ b fo fc)
  have HX0 : Aside (SRow (W.bk (W.sel w x a) b fo fc) w.heap.size x a) := (sel_row w x a).below (bk_below _ b fo fc)
  have HY0 : Aside (RowIs (W.bk (W.sel w x a) b fo fc) (w.heap.size + 1) (C.bk (P.setC b b.cabin) fo fc)) := by
    have := RowIs.new (W.sel w x a) (C.bk b fo fc) 42
    rwa [World.size_alloc] at this
  clear hs hE hf h0
  obtain ⟨d0, d1, d2, d3, d4, d5, d6, d7, d8, d9, d10, d11, d12⟩ := SRow.box HX0.out
  go_enter Tryz.func81, Tryz.ntmps81
  go_wp2
  clear d0 d1 d2 d3 d4 d5 d6 d7 d8 d9 d10 d11 d12
  go_loopg [5, 14] x.s.bs.length (fun g v iv wr => ∃ (k : Nat) (l : List Int) (c0 : Int), k ≤ x.s.bs.length ∧ g = x.s.bs.length - k ∧ iv = .int .i64 k ∧ OwnJ wr (w.heap.size + 1 + 1) v l ∧ Aside (OffIs x b k l) ∧ SRow wr w.heap.size x a ∧ RowIs wr (w.heap.size + 1) (C.bk (P.setC b c0) fo fc) ∧ Below w.heap.size w wr)
  case atStart => exact ⟨0, [], b.cabin, Nat.zero_le _, rfl, rfl, OwnC.nil _ _, OffIs.nil x b, HX0.out, HY0.out, hb0⟩
  case round =>
    clear HX0 HY0 hb0
    obtain ⟨k, l, c0, hk, rfl, rfl, hown, HOF, hX, hY, hB⟩ := hrel
    by_cases hlt : k < x.s.bs.length
    · have hkl : (k : Int) < x.s.bs.length := by omega
      have hX5 := hX.lt
      have hYl := hY.lt
      have hg := grown_st wr (w.heap.size + 1) 5 (.int .i64 (k : Int))
      have hX1 : SRow (wr.setCell ⟨w.heap.size + 1, 5, none⟩ (.int .i64 (k : Int))) w.heap.size x a := hX.gr hg (by simp)
      have hY1 : RowIs (wr.setCell ⟨w.heap.size + 1, 5, none⟩ (.int .i64 (k : Int))) (w.heap.size + 1) (C.bk (P.setC b k) fo fc) := hY.set (k := 5) _
      have hB1 : Below w.heap.size w (wr.setCell ⟨w.heap.size + 1, 5, none⟩ (.int .i64 (k : Int))) := below_gr hB hB.size hg (by omega)
      have HO1 : Aside (OwnJ (wr.setCell ⟨w.heap.size + 1, 5, none⟩ (.int .i64 (k : Int))) (w.heap.size + 1 + 1) _ l) := OwnC.apart hown hg (fun r e hv => by cases e; have := (hown.lt _ hv).1; omega)
      have HX1 : Aside (SRow (wr.setCell ⟨w.heap.size + 1, 5, none⟩ (.int .i64 (k : Int))) w.heap.size x a) := hX1
      have HY1 : Aside (RowIs (wr.setCell ⟨w.heap.size + 1, 5, none⟩ (.int .i64 (k : Int))) (w.heap.size + 1) (C.bk (P.setC b k) fo fc)) := hY1
      obtain ⟨d0, d1, d2, d3, d4, d5, d6, d7, d8, d9, d10, d11, d12⟩ := SRow.box hX
      obtain ⟨z0, z1, z2, z3, z4, z5, z6, z7, z8, z9, z10⟩ := hY.bbox
      have f5 := hY.free 5
      clear hX hY hown hg hX1 hY1 hB
      go_wp2_with fail
      refine (named_sells x a (P.setC b k) fo fc _ (HS.out.below hB1) HE.out (SlAt.below Fo.REnt.mono HF.out hB1)).mono ?_
      rintro e w1 ⟨r, y, a1, rfl, hS1, hU1, hb1⟩
      have hbs1 : Below w1.heap.size w1 (W.sail w1 y a1) := sail_below w1 y a1
      have hb2 := bvia hb1 hbs1
      have hX2 : SRow (W.sail w1 y a1) w.heap.size x a := HX1.out.below hb2
      have hY2 : RowIs (W.sail w1 y a1) (w.heap.size + 1) (C.bk (P.setC b k) fo fc) := HY1.out.below hb2
      have HO2 : Aside (OwnJ (W.sail w1 y a1) (w.heap.size + 1 + 1) _ l) := OwnC.below HO1.out hb2
      have hB2 := bvia hB1 hb2
      have HS1 : Aside (P.Sells 1 x (P.setC b k) r y) := hS1
      have hl16 : l.length ≤ 1000 := by have := HOF.out.len; omega
      have hz2 : w.heap.size + 1 + 1 ≤ (W.sail w1 y a1).heap.size := hY2.lt
      clear d0 d1 d2 d3 d4 d5 d6 d7 d8 d9 d10 d11 d12 z0 z1 z2 z3 z4 z5 z6 z7 z8 z9 z10 f5 hS1 hU1 hb1 HX1 HY1 HO1
      cases hr : (r == 0)
      · have HOF2 : Aside (OffIs x b (k + 1) l) := HOF.out.miss HS1.out (by simpa using hr)
        clear HOF
        go_wp2
        go_roundg (x.s.bs.length - (k + 1))
        case measure => omega
        case rel => exact ⟨k + 1, l, k, by omega, rfl, by go_num, HO2.out, HOF2, hX2, hY2, hB2⟩
      · obtain rfl : r = 0 := by simpa using hr
        have HOF2 : Aside (OffIs x b (k + 1) (l ++ [(k : Int)])) := HOF.out.hit HS1.out
        clear HOF
        go_wp2_with (at_builtin; refine wpList_app_int rfl _ _ (by rfl) (w.heap.size + 1 + 1) _ l (k : Int) (by rfl) HO2.out (w1.heap.size + 1) (by simp) (by rfl) hz2 (by omega) ?_; intro v3 w3 own3 gr3)
        have hX3 : SRow w3 w.heap.size x a := hX2.gr gr3 (fun e => by have := (HO2.out.lt _ e.symm).1; omega)
        have hY3 : RowIs w3 (w.heap.size + 1) (C.bk (P.setC b k) fo fc) := hY2.gr gr3 (fun e => by have := (HO2.out.lt _ e.symm).1; omega)
        have hB3 : Below w.heap.size w w3 := hB2.grown gr3 hB2.size (fun j hj => by have := (HO2.out.lt _ hj).1; omega)
        clear HO2
        go_wp2
        go_roundg (x.s.bs.length - (k + 1))
        case measure => omega
        case rel => exact ⟨k + 1, l ++ [(k : Int)], k, by omega, rfl, by go_num, own3, HOF2, hX3, hY3, hB3⟩
    · obtain rfl : k = x.s.bs.length := by omega
      have HOW : Aside (OwnJ wr (w.heap.size + 1 + 1) _ l) := hown
      clear hown
      go_wp2
      go_ret
      exact ⟨_, l, rfl, OwnC.ahead HOW.out (by omega), HOF.out, hB⟩

/-- I2: what is wrong. -/
def P.offE (x : Sail) (g f t : Int) : Int := if P.btw g 1 4 = true then (if P.chk f t x.s.legs = 0 then (if x.lvs ≤ x.day then 4 else if 16 ≤ x.bks.length then 2 else 0) else P.chk f t x.s.legs) else 3
/-- Whom they are offered to. -/
def P.who (n g : Int) (lv : Bool) (f t : Int) : Bkg := ⟨n, 1, 2, g, lv, 0, 0, f, t, 0, []⟩
/-- I2: the errno, and the cabins. -/
def P.Offs (x : Sail) (g : Int) (lv : Bool) (f t r : Int) (l : List Int) : Prop := r = P.offE x g f t ∧ (¬ r = 0 → l = []) ∧ (r = 0 → ∃ n, LeastIs x.bks n ∧ OffIs x (P.who n g lv f t) x.s.bs.length l)
def P.OffS (x : Sail) (g : Int) (lv : Bool) (f t r : Int) (l : List Int) : Prop := (∃ q, P.SailE x q ∧ ¬ q = 0 ∧ r = q ∧ l = []) ∨ (P.SailE x 0 ∧ P.Offs x g lv f t r l)
theorem Offs.one {x : Sail} {g : Int} {lv : Bool} {f t r r' : Int} {l l' : List Int} (h : P.Offs x g lv f t r l) (h' : P.Offs x g lv f t r' l') : r = r' ∧ l = l' := by
  obtain ⟨rfl, h1, h2⟩ := h
  obtain ⟨rfl, k1, k2⟩ := h'
  refine ⟨rfl, ?_⟩
  by_cases h0 : P.offE x g f t = 0
  · obtain ⟨n, a1, a2⟩ := h2 h0
    obtain ⟨m, b1, b2⟩ := k2 h0
    obtain rfl := LeastIs.one a1 b1
    exact OffIs.one a2 b2
  · rw [h1 h0, k1 h0]
theorem OffS.one {x : Sail} {g : Int} {lv : Bool} {f t r r' : Int} {l l' : List Int} (h : P.OffS x g lv f t r l) (h' : P.OffS x g lv f t r' l') : r = r' ∧ l = l' := by
  rcases h with ⟨q, a1, a2, rfl, rfl⟩ | ⟨a1, a2⟩ <;> rcases h' with ⟨q', b1, b2, rfl, rfl⟩ | ⟨b1, b2⟩
  · exact ⟨SailE.one a1 b1, rfl⟩
  · exact absurd (SailE.one a1 b1) a2
  · exact absurd (SailE.one b1 a1) b2
  · exact Offs.one a2 b2
theorem off_range {x : Sail} {g f t : Int} (h : P.btw g 1 4 = false) : P.offE x g f t = 3 := by rw [P.offE, if_neg (by rw [h]; decide)]
theorem off_span {x : Sail} {g f t : Int} (h : P.btw g 1 4 = true) (h1 : ¬ P.chk f t x.s.legs = 0) : P.offE x g f t = P.chk f t x.s.legs := by rw [P.offE, if_pos h, if_neg h1]
theorem off_left {x : Sail} {g f t : Int} (h : P.btw g 1 4 = true) (h1 : P.chk f t x.s.legs = 0) (h2 : x.lvs ≤ x.day) : P.offE x g f t = 4 := by rw [P.offE, if_pos h, if_pos h1, if_pos h2]
theorem off_full {x : Sail} {g f t : Int} (h : P.btw g 1 4 = true) (h1 : P.chk f t x.s.legs = 0) (h2 : ¬ x.lvs ≤ x.day) (h3 : 16 ≤ x.bks.length) : P.offE x g f t = 2 := by rw [P.offE, if_pos h, if_pos h1, if_neg h2, if_pos h3]
theorem off_ok {x : Sail} {g f t : Int} (h : P.btw g 1 4 = true) (h1 : P.chk f t x.s.legs = 0) (h2 : ¬ x.lvs ≤ x.day) (h3 : ¬ 16 ≤ x.bks.length) : P.offE x g f t = 0 := by rw [P.offE, if_pos h, if_pos h1, if_neg h2, if_neg h3]

end Go.Proofs.YtpjfpgimpgmhcadGreat.St
namespace Go.Proofs.YtpjfpgimpgmhcadGreat.St
open Go.RowKit Bk
set_option linter.unusedSimpArgs false
set_option linter.unusedVariables false
set_option maxRecDepth 10000

abbrev W.sp2 (w : World) (f t : Int) : World := w.alloc (.cells #[.int .i64 f, .int .i64 t] 39)
set_option maxHeartbeats 8000000 in
theorem sellOffers_any (x : Sail) (a : SailA) (g : Int) (lv : Bool) (f t : Int) (w : World) (hs : SailAt w x a) :
    Calls Tryz.prog 29 #[V.sail x a, .int .i64 g, .bool lv, .agg #[.int .i64 f, .int .i64 t]] w fun e w' => ∃ r v l, e = .returned (.tuple #[v, .int .i64 r]) ∧ OwnJ w' w.heap.size v l ∧ P.OffS x g lv f t r l ∧ Below w.heap.size w w' := by
  have hb0 : Below w.heap.size w (W.sp2 (W.sail w x a) f t) := bvia (sail_below w x a) (by go_grown)
  have HX0 : Aside (SRow (W.sp2 (W.sail w x a) f t) w.heap.size x a) := (RowIs.new w _ _ : SRow (W.sail w x a) w.heap.size x a).below (by go_grown)
  have HP0 : Aside (RowIs (W.sp2 (W.sail w x a) f t) (w.heap.size + 1) #[.int .i64 f, .int .i64 t]) := by
    have := RowIs.new (W.sail w x a) #[.int .i64 f, .int .i64 t] 39
    rwa [World.size_alloc] at this
  have HS : Aside (SailAt w x a) := hs
  clear hs
  obtain ⟨d0, d1, d2, d3, d4, d5, d6, d7, d8, d9, d10, d11, d12⟩ := SRow.box HX0.out
  go_enter Tryz.func29, Tryz.ntmps29
  go_wp2_with fail
  refine (stockCheck_any x a _ (HS.out.below hb0)).mono ?_
  rintro e w1 ⟨q, rfl, hq, hb1⟩
  have HQ : Aside (P.SailE x q) := hq
  have hB1 := bvia hb0 hb1
  have HX1 : Aside (SRow w1 w.heap.size x a) := HX0.out.below hb1
  have HP1 : Aside (RowIs w1 (w.heap.size + 1) #[.int .i64 f, .int .i64 t]) := HP0.out.below hb1
  clear d0 d1 d2 d3 d4 d5 d6 d7 d8 d9 d10 d11 d12 HX0 HP0 hb0 hb1 hq
  cases hz : (q != 0)
  rotate_left
  · have HN : Aside (¬ q = 0) := by show ¬ _; simpa using hz
    go_wp2
    go_ret2
    exact ⟨q, _, [], rfl, OwnC.nil _ _, .inl ⟨q, HQ.out, HN.out, rfl, rfl⟩, hB1⟩
  obtain rfl : q = 0 := by simpa using hz
  clear hz
  by_cases hg1 : g < 1
  · have HG : Aside (P.offE x g f t = 3) := off_range (by simp [P.btw]; omega)
    go_wp2
    go_ret2
    exact ⟨3, _, [], rfl, OwnC.nil _ _, .inr ⟨HQ.out, HG.out.symm, fun _ => rfl, fun h => absurd h (by decide)⟩, hB1⟩
  by_cases hg4 : 4 < g
  · have HG : Aside (P.offE x g f t = 3) := off_range (by simp [P.btw]; omega)
    go_wp2
    go_ret2
    exact ⟨3, _, [], rfl, OwnC.nil _ _, .inr ⟨HQ.out, HG.out.symm, fun _ => rfl, fun h => absurd h (by decide)⟩, hB1⟩
  have HG : Aside (P.btw g 1 4 = true) := by show _ = _; simp [P.btw]; omega
  have d0 : w1.cell? ⟨w.heap.size, 0, none⟩ = some (.int .i64 x.s.legs) := HX1.out.cell 0
  have s0 : w1.cell? ⟨w.heap.size + 1, 0, none⟩ = some (.int .i64 f) := HP1.out.cell 0
  have s1 : w1.cell? ⟨w.heap.size + 1, 1, none⟩ = some (.int .i64 t) := HP1.out.cell 1
  go_wp2_with fail
  refine (Sp.check_any _ _ _ _).mono ?_
  rintro e w2 ⟨rfl, hb2⟩
  have hB2 := bvia hB1 hb2
  have HX2 : Aside (SRow w2 w.heap.size x a) := HX1.out.below hb2
  have HP2 : Aside (RowIs w2 (w.heap.size + 1) #[.int .i64 f, .int .i64 t]) := HP1.out.below hb2
  clear d0 s0 s1 HX1 HP1 hb2 hg1 hg4
  cases hc : (P.chk f t x.s.legs != 0)
  rotate_left
  · have HN : Aside (¬ P.chk f t x.s.legs = 0) := by show ¬ _; simpa using hc
    have HO : Aside (P.offE x g f t = P.chk f t x.s.legs) := off_span HG.out HN.out
    go_wp2
    go_ret2
    exact ⟨_, _, [], rfl, OwnC.nil _ _, .inr ⟨HQ.out, HO.out.symm, fun _ => rfl, fun h => absurd h HN.out⟩, hB2⟩
  have HC : Aside (P.chk f t x.s.legs = 0) := by show _ = _; simpa using hc
  rw [HC.out]
  clear hc
  obtain ⟨d0, d1, d2, d3, d4, d5, d6, d7, d8, d9, d10, d11, d12⟩ := SRow.box HX2.out
  have hbS := sel_below w2 x a
  have HX3 : Aside (SRow (W.sel w2 x a) w2.heap.size x a) := sel_row w2 x a
  have HP3 : Aside (RowIs (W.sel w2 x a) (w.heap.size + 1) #[.int .i64 f, .int .i64 t]) := HP2.out.below hbS
  have hB3 := bvia hB2 hbS
  go_wp2_with fail
  refine (hasLeft_any x a _).mono ?_
  rintro e w4 ⟨rfl, hb4⟩
  have hB4 := bvia hB3 hb4
  have HX4 : Aside (SRow w4 w2.heap.size x a) := HX3.out.below hb4
  have HP4 : Aside (RowIs w4 (w.heap.size + 1) #[.int .i64 f, .int .i64 t]) := HP3.out.below hb4
  clear d0 d1 d2 d3 d4 d5 d6 d7 d8 d9 d10 d11 d12 HX2 HP2 HX3 HP3 hbS hb4 hB3
  by_cases hl : x.lvs ≤ x.day
  · have HO : Aside (P.offE x g f t = 4) := off_left HG.out HC.out hl
    have hld : decide (x.lvs ≤ x.day) = true := by simpa using hl
    rw [hld]
    go_wp2
    go_ret2
    exact ⟨4, _, [], rfl, OwnC.nil _ _, .inr ⟨HQ.out, HO.out.symm, fun _ => rfl, fun h => absurd h (by decide)⟩, hB4⟩
  have HLV : Aside (¬ x.lvs ≤ x.day) := hl
  have hld : decide (x.lvs ≤ x.day) = false := by simpa using hl
  rw [hld]
  clear hl hld
  obtain ⟨d0, d1, d2, d3, d4, d5, d6, d7, d8, d9, d10, d11, d12⟩ := SRow.box HX4.out
  go_wp2_with fail
  refine (isFull_any x a _).mono ?_
  rintro e w5 ⟨rfl, hb5⟩
  have hB5 := bvia hB4 hb5
  have HX5 : Aside (SRow w5 w2.heap.size x a) := HX4.out.below hb5
  have HP5 : Aside (RowIs w5 (w.heap.size + 1) #[.int .i64 f, .int .i64 t]) := HP4.out.below hb5
  clear d0 d1 d2 d3 d4 d5 d6 d7 d8 d9 d10 d11 d12 HX4 HP4 hb5 hB4
  by_cases hf : 16 ≤ x.bks.length
  · have HO : Aside (P.offE x g f t = 2) := off_full HG.out HC.out (by first | exact HLV.out | exact Int.not_le.2 HLV.out) hf
    have hfd : decide (16 ≤ x.bks.length) = true := by simpa using hf
    rw [hfd]
    go_wp2
    go_ret2
    exact ⟨2, _, [], rfl, OwnC.nil _ _, .inr ⟨HQ.out, HO.out.symm, fun _ => rfl, fun h => absurd h (by decide)⟩, hB5⟩
  have hfd : decide (16 ≤ x.bks.length) = false := by simpa using hf
  have HO : Aside (P.offE x g f t = 0) := off_ok HG.out HC.out (by first | exact HLV.out | exact Int.not_le.2 HLV.out) hf
  rw [hfd]
  clear hf hfd
  obtain ⟨d0, d1, d2, d3, d4, d5, d6, d7, d8, d9, d10, d11, d12⟩ := SRow.box HX5.out
  have ds0 : w5.cell? ⟨w.heap.size + 1, 0, none⟩ = some (.int .i64 f) := HP5.out.cell 0
  have ds1 : w5.cell? ⟨w.heap.size + 1, 1, none⟩ = some (.int .i64 t) := HP5.out.cell 1
  obtain ⟨hp5, _, _, _, h165, _⟩ := sail_ok HQ.out
  have HRI : Aside (x.bks.Pairwise (fun a b => a.id < b.id)) := (bksI_rise (pre_zero hp5).2.1).2
  clear hp5
  go_wp2_with fail
  go_region_held3 (fun u => u.cell? ⟨w2.heap.size, 0, none⟩ = some (.int .i64 x.s.legs) ∧ u.cell? ⟨w2.heap.size, 1, none⟩ = some (.int .i64 x.s.souls) ∧ u.cell? ⟨w2.heap.size, 2, none⟩ = some (.slice a.v.cao x.s.cs.length a.v.cc) ∧ u.cell? ⟨w2.heap.size, 3, none⟩ = some (.slice a.v.bao x.s.bs.length a.v.bc) ∧ u.cell? ⟨w2.heap.size, 4, none⟩ = some (.slice a.lo x.L.length a.lc) ∧ u.cell? ⟨w2.heap.size, 5, none⟩ = some (.int .i64 x.al) ∧ u.cell? ⟨w2.heap.size, 6, none⟩ = some (.int .i64 x.th) ∧ u.cell? ⟨w2.heap.size, 7, none⟩ = some (.slice a.bo x.B.length a.bc) ∧ u.cell? ⟨w2.heap.size, 8, none⟩ = some (.int .i64 x.dn) ∧ u.cell? ⟨w2.heap.size, 9, none⟩ = some (.int .i64 x.day) ∧ u.cell? ⟨w2.heap.size, 10, none⟩ = some (.int .i64 x.lvs) ∧ u.cell? ⟨w2.heap.size, 11, none⟩ = some (.slice a.ao x.bks.length a.cap) ∧ u.cell? ⟨w2.heap.size, 12, none⟩ = some (.bool x.cl) ∧ u.cell? ⟨w.heap.size + 1, 0, none⟩ = some (.int .i64 f) ∧ u.cell? ⟨w.heap.size + 1, 1, none⟩ = some (.int .i64 t))
    (first
      | with_reducible exact ⟨e0, e1, e2, e3, e4, e5, e6, e7, e8, e9, e10, e11, e12, es0, es1⟩
      | with_reducible exact ⟨d0, d1, d2, d3, d4, d5, d6, d7, d8, d9, d10, d11, d12, ds0, ds1⟩
      | with_reducible exact ⟨k0, k1, k2, k3, k4, k5, k6, k7, k8, k9, k10, k11, k12, ks0, ks1⟩
      | go_keep)
    (first
      | (go_at_call 82; refine (unused_any x a _ (HS.out.below (by first | exact hB5 | exact bvia hB5 (by go_grown))) (by omega) HRI.out).mono ?_; rintro e w6 ⟨n, rfl, hn6, hb6⟩; have hb56 : Below w5.heap.size w5 w6 := (by first | exact hb6 | exact bvia (dr _) hb6); obtain ⟨e0, e1, e2, e3, e4, e5, e6, e7, e8, e9, e10, e11, e12⟩ := SRow.box (HX5.out.below hb56); have es0 : w6.cell? ⟨w.heap.size + 1, 0, none⟩ = some (.int .i64 f) := (HP5.out.below hb56).cell 0; have es1 : w6.cell? ⟨w.heap.size + 1, 1, none⟩ = some (.int .i64 t) := (HP5.out.below hb56).cell 1)
      | (go_at_call 81; refine (offers_own x a (P.who n g lv f t) none 0 _ (HS.out.below (bvia hB5 (by first | exact hb56 | exact bvia hb56 (by go_grown)))) HQ.out (SlAt.nilOf _)).mono ?_; rintro e w7 ⟨v7, l7, rfl, own7, off7, hb7⟩; have hb57 : Below w5.heap.size w5 w7 := (by first | exact bvia hb56 hb7 | exact bvia hb56 (bvia (dr _) hb7)); obtain ⟨k0, k1, k2, k3, k4, k5, k6, k7, k8, k9, k10, k11, k12⟩ := SRow.box (HX5.out.below hb57); have ks0 : w7.cell? ⟨w.heap.size + 1, 0, none⟩ = some (.int .i64 f) := (HP5.out.below hb57).cell 0; have ks1 : w7.cell? ⟨w.heap.size + 1, 1, none⟩ = some (.int .i64 t) := (HP5.out.below hb57).cell 1))
  all_goals
    have hB7 := bvia hB5 hb57
    have HO7 : Aside (OwnJ w7 w.heap.size v7 l7) := OwnC.ahead own7 (by first | exact Nat.le_trans hB5.size hb56.size | (simp; exact Nat.le_trans hB5.size hb56.size))
    have HN6 : Aside (LeastIs x.bks n) := hn6
    have HF7 : Aside (OffIs x (P.who n g lv f t) x.s.bs.length l7) := off7
    clear d0 d1 d2 d3 d4 d5 d6 d7 d8 d9 d10 d11 d12 ds0 ds1 e0 e1 e2 e3 e4 e5 e6 e7 e8 e9 e10 e11 e12 es0 es1 k0 k1 k2 k3 k4 k5 k6 k7 k8 k9 k10 k11 k12 ks0 ks1 own7 off7 hn6
    go_wp2
    go_ret2
    exact ⟨0, v7, l7, rfl, HO7.out, .inr ⟨HQ.out, HO.out.symm, fun h => absurd rfl h, fun _ => ⟨n, HN6.out, HF7.out⟩⟩, hB7⟩

end Go.Proofs.YtpjfpgimpgmhcadGreat.St
