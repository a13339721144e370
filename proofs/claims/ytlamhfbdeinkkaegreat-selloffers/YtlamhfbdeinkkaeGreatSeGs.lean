/- Package sell: promise, Named, Promise. -/
import Derived.Test.YtlamhfbdeinkkaeGreatSeFs
namespace Go.Proofs.YtlamhfbdeinkkaeGreat.St
open Go.RowKit Bk
set_option linter.unusedSimpArgs false
set_option linter.unusedVariables false
set_option maxRecDepth 10000

set_option maxHeartbeats 16000000 in
theorem promise_sells (x : Sail) (a : SailA) (b : Bkg) (fo : Option Addr) (fc : Nat) (w : World) (hs : SailAt w x a) (hE : P.SailE x 0) (hf : Fo.EntsAt w fo fc b.fol) :
    Calls Tryz.prog 49 #[V.sail x a, V.bk b fo fc] w fun e w' => ∃ r y a', e = .returned (.tuple #[V.sail y a', .int .i64 r]) ∧ P.Sells 2 x b r y ∧ SailUp w.heap.size w' y a' ∧ Below w.heap.size w w' := by
  obtain ⟨hp, hfr, h0, hbks, h16, _⟩ := sail_ok hE
  have HS : Aside (SailAt w x a) := hs
  have HE : Aside (P.SailE x 0) := hE
  have HF : Aside (Fo.EntsAt w fo fc b.fol) := hf
  have H0 : Aside (P.shp x.s = 0) := h0
  have hb0 : Below w.heap.size w (W.sell w x a b fo fc) := bvia (sel_below w x a) (bvia (bk_below _ b fo fc) (by go_grown))
  have HX0 : Aside (SRow (W.sell w x a b fo fc) w.heap.size x a) := ((sel_row w x a).below (bk_below _ b fo fc)).below (by go_grown)
  have HY0 : Aside (RowIs (W.sell w x a b fo fc) (w.heap.size + 1) (C.bk b fo fc)) := by
    have := (RowIs.new (W.sel w x a) (C.bk b fo fc) 37).below (w' := W.sell w x a b fo fc) (by go_grown)
    rwa [World.size_alloc] at this
  have HZ0 : Aside (RowIs (W.sell w x a b fo fc) (w.heap.size + 1 + 1) C.zs) := by
    have := RowIs.new (W.bk (W.sel w x a) b fo fc) C.zs 32
    rwa [World.size_alloc, World.size_alloc] at this
  clear hs hE hf h0 hp hfr hbks
  obtain ⟨z0, z1, z2, z3, z4, z5, z6, z7, z8, z9, z10⟩ := HY0.out.bbox
  go_enter Tryz.func49, Tryz.ntmps49
  go_wp2_with fail
  refine (isSold_any b fo fc 2 _).mono ?_
  rintro e w1 ⟨rfl, hb1⟩
  have hB1 := bvia hb0 hb1
  have HX1 : Aside (SRow w1 w.heap.size x a) := HX0.out.below hb1
  have HY1 : Aside (RowIs w1 (w.heap.size + 1) (C.bk b fo fc)) := HY0.out.below hb1
  have HZ1 : Aside (RowIs w1 (w.heap.size + 1 + 1) C.zs) := HZ0.out.below hb1
  clear z0 z1 z2 z3 z4 z5 z6 z7 z8 z9 z10 HX0 HY0 HZ0 hb0 hb1
  cases hsd : P.sold b 2
  · have HM : Aside (P.sellE 2 x b = 7) := sold_not hsd
    go_wp2_with (refine wpList_stC rfl 32 _ _ (by rfl) (w.heap.size + 1 + 1) C.zs (C.sail P.zeroS A.zeroS) Tryz.sizeSail (by rfl) (by rfl) HZ1.out rfl (sail_one _ _) ?_; intro w9 hr9 hg9)
    exact bodyPost_ret (res2 rfl hr9 _ rfl rfl Tryz.underlying32 rfl Tryz.sizeSail) rfl ⟨7, P.zeroS, A.zeroS, rfl, .inl ⟨by rw [HM.out]; decide, HM.out.symm, rfl⟩, SailUp.zero _ _, below_gr hB1 hB1.size hg9 (by omega)⟩
  have HSD : Aside (b.kind = 2 ∧ b.state ≠ 3) := sold_yes hsd
  clear hsd
  have z10 := HY1.out.cell 10
  have z5 := HY1.out.cell 5
  by_cases hfo : 0 < b.fol.length
  · have HM : Aside (P.sellE 2 x b = 1) := by show _ = _; rw [P.sellE, if_pos HSD.out, if_pos (.inl hfo)]
    have hfo2 : (0 : Int) < (b.fol.length : Int) := by omega
    go_wp2_with (refine wpList_stC rfl 32 _ _ (by rfl) (w.heap.size + 1 + 1) C.zs (C.sail P.zeroS A.zeroS) Tryz.sizeSail (by rfl) (by rfl) HZ1.out rfl (sail_one _ _) ?_; intro w9 hr9 hg9)
    exact bodyPost_ret (res2 rfl hr9 _ rfl rfl Tryz.underlying32 rfl Tryz.sizeSail) rfl ⟨1, P.zeroS, A.zeroS, rfl, .inl ⟨by rw [HM.out]; decide, HM.out.symm, rfl⟩, SailUp.zero _ _, below_gr hB1 hB1.size hg9 (by omega)⟩
  have hfo2 : ¬ (0 : Int) < (b.fol.length : Int) := by omega
  have HFO0 : Aside (b.fol.length = 0) := by show _ = _; omega
  have hd0 : decide (0 < b.fol.length) = false := by simpa using hfo
  clear hfo
  cases hcb : (b.cabin != -1)
  rotate_left
  · have HM : Aside (P.sellE 2 x b = 1) := by show _ = _; rw [P.sellE, if_pos HSD.out, if_pos (.inr ⟨rfl, by simpa using hcb⟩)]
    go_wp2_with (refine wpList_stC rfl 32 _ _ (by rfl) (w.heap.size + 1 + 1) C.zs (C.sail P.zeroS A.zeroS) Tryz.sizeSail (by rfl) (by rfl) HZ1.out rfl (sail_one _ _) ?_; intro w9 hr9 hg9)
    exact bodyPost_ret (res2 rfl hr9 _ rfl rfl Tryz.underlying32 rfl Tryz.sizeSail) rfl ⟨1, P.zeroS, A.zeroS, rfl, .inl ⟨by rw [HM.out]; decide, HM.out.symm, rfl⟩, SailUp.zero _ _, below_gr hB1 hB1.size hg9 (by omega)⟩
  clear hd0
  have hd0 : decide (0 < b.fol.length) = false := by rw [HFO0.out]; rfl
  have HCB : Aside (b.cabin = -1) := by show _ = _; simpa using hcb
  obtain ⟨d0, d1, d2, d3, d4, d5, d6, d7, d8, d9, d10, d11, d12⟩ := SRow.box HX1.out
  clear z10 z5
  obtain ⟨z0, z1, z2, z3, z4, z5, z6, z7, z8, z9, z10⟩ := HY1.out.bbox
  go_wp2_with fail
  refine (bkC_any x a b fo fc _ (HS.out.below hB1).ship (SlAt.below Fo.REnt.mono HF.out hB1) H0.out).mono ?_
  rintro e w2 ⟨rfl, hb2⟩
  have hB2 := bvia hB1 hb2
  have HX2 : Aside (SRow w2 w.heap.size x a) := HX1.out.below hb2
  have HY2 : Aside (RowIs w2 (w.heap.size + 1) (C.bk b fo fc)) := HY1.out.below hb2
  have HZ2 : Aside (RowIs w2 (w.heap.size + 1 + 1) C.zs) := HZ1.out.below hb2
  clear d0 d1 d2 d3 d4 d5 d6 d7 d8 d9 d10 d11 d12 z0 z1 z2 z3 z4 z5 z6 z7 z8 z9 z10 HX1 HY1 HZ1 hb2 hB1 hfo2 hcb hd0
  cases hk : (P.bkE x.s b != 0)
  rotate_left
  · have HN : Aside (¬ P.bkE x.s b = 0) := by show ¬ _; simpa using hk
    have HM : Aside (P.sellE 2 x b = P.bkE x.s b) := by show _ = _; rw [P.sellE, if_pos HSD.out, if_neg (fun h => h.elim (fun h => by have := HFO0.out; omega) (fun h => h.2 HCB.out)), if_neg HN.out]
    go_wp2_with (refine wpList_stC rfl 32 _ _ (by rfl) (w.heap.size + 1 + 1) C.zs (C.sail P.zeroS A.zeroS) Tryz.sizeSail (by rfl) (by rfl) HZ2.out rfl (sail_one _ _) ?_; intro w9 hr9 hg9)
    exact bodyPost_ret (res2 rfl hr9 _ rfl rfl Tryz.underlying32 rfl Tryz.sizeSail) rfl ⟨_, P.zeroS, A.zeroS, rfl, .inl ⟨by rw [HM.out]; exact HN.out, HM.out.symm, rfl⟩, SailUp.zero _ _, below_gr hB2 hB2.size hg9 (by omega)⟩
  have HK : Aside (P.bkE x.s b = 0) := by show _ = _; simpa using hk
  have HL : Aside (P.sellE 2 x b = P.lateE 2 x b) := by show _ = _; rw [P.sellE, if_pos HSD.out, if_neg (fun h => h.elim (fun h => by have := HFO0.out; omega) (fun h => h.2 HCB.out)), if_pos HK.out]
  clear hk
  rw [HK.out]
  obtain ⟨d0, d1, d2, d3, d4, d5, d6, d7, d8, d9, d10, d11, d12⟩ := SRow.box HX2.out
  go_wp2_with fail
  refine (hasLeft_any x a _).mono ?_
  rintro e w3 ⟨rfl, hb3⟩
  have hB3 := bvia hB2 hb3
  have HX3 : Aside (SRow w3 w.heap.size x a) := HX2.out.below hb3
  have HY3 : Aside (RowIs w3 (w.heap.size + 1) (C.bk b fo fc)) := HY2.out.below hb3
  have HZ3 : Aside (RowIs w3 (w.heap.size + 1 + 1) C.zs) := HZ2.out.below hb3
  clear d0 d1 d2 d3 d4 d5 d6 d7 d8 d9 d10 d11 d12 HX2 HY2 HZ2 hb3 hB2
  by_cases hl : x.lvs ≤ x.day
  · have HM : Aside (P.sellE 2 x b = 4) := by show _ = _; rw [HL.out, P.lateE, if_pos (.inl (.inl hl))]
    have hld : decide (x.lvs ≤ x.day) = true := by simpa using hl
    rw [hld]
    go_wp2_with (refine wpList_stC rfl 32 _ _ (by rfl) (w.heap.size + 1 + 1) C.zs (C.sail P.zeroS A.zeroS) Tryz.sizeSail (by rfl) (by rfl) HZ3.out rfl (sail_one _ _) ?_; intro w9 hr9 hg9)
    exact bodyPost_ret (res2 rfl hr9 _ rfl rfl Tryz.underlying32 rfl Tryz.sizeSail) rfl ⟨4, P.zeroS, A.zeroS, rfl, .inl ⟨by rw [HM.out]; decide, HM.out.symm, rfl⟩, SailUp.zero _ _, below_gr hB3 hB3.size hg9 (by omega)⟩
  have HLV : Aside (¬ x.lvs ≤ x.day) := hl
  have hld : decide (x.lvs ≤ x.day) = false := by simpa using hl
  rw [hld]
  clear hl hld
  obtain ⟨d0, d1, d2, d3, d4, d5, d6, d7, d8, d9, d10, d11, d12⟩ := SRow.box HX3.out
  obtain ⟨z0, z1, z2, z3, z4, z5, z6, z7, z8, z9, z10⟩ := HY3.out.bbox
  go_wp2_with fail
  refine (mayWait_any x a b fo fc _).mono ?_
  rintro e w4 ⟨rfl, hb4⟩
  have hB4 := bvia hB3 hb4
  have HX4 : Aside (SRow w4 w.heap.size x a) := HX3.out.below hb4
  have HY4 : Aside (RowIs w4 (w.heap.size + 1) (C.bk b fo fc)) := HY3.out.below hb4
  have HZ4 : Aside (RowIs w4 (w.heap.size + 1 + 1) C.zs) := HZ3.out.below hb4
  clear d0 d1 d2 d3 d4 d5 d6 d7 d8 d9 d10 d11 d12 z0 z1 z2 z3 z4 z5 z6 z7 z8 z9 z10 HX3 HY3 HZ3 hb4 hB3
  cases hw : P.waits x b
  · have HM : Aside (P.sellE 2 x b = 4) := by show _ = _; rw [HL.out, P.lateE, if_pos (.inl (.inr hw))]
    go_wp2_with (refine wpList_stC rfl 32 _ _ (by rfl) (w.heap.size + 1 + 1) C.zs (C.sail P.zeroS A.zeroS) Tryz.sizeSail (by rfl) (by rfl) HZ4.out rfl (sail_one _ _) ?_; intro w9 hr9 hg9)
    exact bodyPost_ret (res2 rfl hr9 _ rfl rfl Tryz.underlying32 rfl Tryz.sizeSail) rfl ⟨4, P.zeroS, A.zeroS, rfl, .inl ⟨by rw [HM.out]; decide, HM.out.symm, rfl⟩, SailUp.zero _ _, below_gr hB4 hB4.size hg9 (by omega)⟩
  have d12 := HX4.out.cell 12
  have HWA : Aside (P.waits x b = true) := hw
  clear hw
  cases hcl : x.cl
  rotate_left
  · have HM : Aside (P.sellE 2 x b = 4) := by show _ = _; rw [HL.out, P.lateE, if_pos (.inr ⟨rfl, hcl⟩)]
    have d12' : w4.cell? ⟨w.heap.size, 12, none⟩ = some (.bool true) := by rw [← hcl]; exact d12
    clear d12
    go_wp2_with (refine wpList_stC rfl 32 _ _ (by rfl) (w.heap.size + 1 + 1) C.zs (C.sail P.zeroS A.zeroS) Tryz.sizeSail (by rfl) (by rfl) HZ4.out rfl (sail_one _ _) ?_; intro w9 hr9 hg9)
    exact bodyPost_ret (res2 rfl hr9 _ rfl rfl Tryz.underlying32 rfl Tryz.sizeSail) rfl ⟨4, P.zeroS, A.zeroS, rfl, .inl ⟨by rw [HM.out]; decide, HM.out.symm, rfl⟩, SailUp.zero _ _, below_gr hB4 hB4.size hg9 (by omega)⟩
  have d12' : w4.cell? ⟨w.heap.size, 12, none⟩ = some (.bool false) := by rw [← hcl]; exact d12
  have HCL : Aside (x.cl = false) := hcl
  have HM : Aside (P.sellE 2 x b = P.midE x b) := by
    show _ = _
    rw [HL.out, P.lateE, if_neg (fun h => h.elim (fun h => h.elim (Int.not_le.2 HLV.out) (fun h => by rw [HWA.out] at h; cases h)) (fun h => by rw [HCL.out] at h; cases h.2))]
    rfl
  have HCAT : Aside (P.catOf 2 x b = b.cat) := by show _ = _; rw [P.catOf, if_neg (by decide)]
  have HX4' : Aside (SBox w4 w.heap.size x a) := SRow.box HX4.out
  clear d12 hcl
  obtain ⟨d0, d1, d2, d3, d4, d5, d6, d7, d8, d9, d10, d11, -⟩ := HX4'.out
  obtain ⟨z0, z1, z2, z3, z4, z5, z6, z7, z8, z9, z10⟩ := HY4.out.bbox
  go_wp2_with fail
  refine (sell_arg _ 2 x a b fo fc b.cat _ (by simp only [V.sail, HCL.out]) (.inr rfl) (HS.out.below hB4) HE.out HSD.out.1 HK.out HM.out HCAT.out).mono ?_
  rintro e w5 ⟨r, y, a5, rfl, hS5, hU5, hb5⟩
  have HS5 : Aside (P.Sells 2 x b r y) := hS5
  have HU5 : Aside (SailUp w4.heap.size w5 y a5) := hU5
  have HZ5 : Aside (RowIs w5 (w.heap.size + 1 + 1) C.zs) := HZ4.out.below hb5
  have hB5 := bvia hB4 hb5
  have hlt4 : w.heap.size + 1 + 1 < w4.heap.size := HZ4.out.lt
  clear d0 d1 d2 d3 d4 d5 d6 d7 d8 d9 d10 d11 d12' z0 z1 z2 z3 z4 z5 z6 z7 z8 z9 z10 hS5 hU5 hb5
  go_wp2_with (refine wpList_stC rfl 32 _ _ (by rfl) (w.heap.size + 1 + 1) C.zs (C.sail y a5) Tryz.sizeSail (by rfl) (by rfl) HZ5.out rfl (sail_one _ _) ?_; intro w9 hr9 hg9)
  exact bodyPost_ret (res2 rfl hr9 _ rfl rfl Tryz.underlying32 rfl Tryz.sizeSail) rfl ⟨r, y, a5, rfl, HS5.out, SailUp.mono (SailUp.up HU5.out (Up.gr hg9 hlt4)) (by omega), below_gr hB5 hB5.size hg9 (by omega)⟩

set_option maxHeartbeats 4000000 in
theorem sellNamed_any (x : Sail) (a : SailA) (b : Bkg) (fo : Option Addr) (fc : Nat) (w : World) (hs : SailAt w x a) (hf : Fo.EntsAt w fo fc b.fol) :
    Calls Tryz.prog 11 #[V.sail x a, V.bk b fo fc] w fun e w' => ∃ r y a', e = .returned (.tuple #[V.sail y a', .int .i64 r]) ∧ P.SellS 1 x b r y ∧ SailUp w.heap.size w' y a' ∧ Below w.heap.size w w' := by
  have hb0 : Below w.heap.size w ((W.bk (W.sail w x a) b fo fc).alloc O.zs) := bvia (sail_below w x a) (bvia (bk_below _ b fo fc) (by go_grown))
  have HX0 : Aside (SRow ((W.bk (W.sail w x a) b fo fc).alloc O.zs) w.heap.size x a) := ((RowIs.new w _ _ : SRow (W.sail w x a) w.heap.size x a).below (bk_below _ b fo fc)).below (by go_grown)
  have HY0 : Aside (RowIs ((W.bk (W.sail w x a) b fo fc).alloc O.zs) (w.heap.size + 1) (C.bk b fo fc)) := by
    have := (RowIs.new (W.sail w x a) (C.bk b fo fc) 37).below (w' := (W.bk (W.sail w x a) b fo fc).alloc O.zs) (by go_grown)
    rwa [World.size_alloc] at this
  have HZ0 : Aside (RowIs ((W.bk (W.sail w x a) b fo fc).alloc O.zs) (w.heap.size + 1 + 1) C.zs) := by
    have := RowIs.new (W.bk (W.sail w x a) b fo fc) C.zs 32
    rwa [World.size_alloc, World.size_alloc] at this
  have HS : Aside (SailAt w x a) := hs
  have HF : Aside (Fo.EntsAt w fo fc b.fol) := hf
  clear hs hf
  obtain ⟨d0, d1, d2, d3, d4, d5, d6, d7, d8, d9, d10, d11, d12⟩ := SRow.box HX0.out
  go_enter Tryz.func11, Tryz.ntmps11
  go_wp2_with fail
  refine (stockCheck_any x a _ (HS.out.below hb0)).mono ?_
  rintro e w1 ⟨q, rfl, hq, hb1⟩
  have HQ : Aside (P.SailE x q) := hq
  have hB1 := bvia hb0 hb1
  have HX1 : Aside (SRow w1 w.heap.size x a) := HX0.out.below hb1
  have HY1 : Aside (RowIs w1 (w.heap.size + 1) (C.bk b fo fc)) := HY0.out.below hb1
  have HZ1 : Aside (RowIs w1 (w.heap.size + 1 + 1) C.zs) := HZ0.out.below hb1
  clear d0 d1 d2 d3 d4 d5 d6 d7 d8 d9 d10 d11 d12 HX0 HY0 HZ0 hb0 hb1 hq
  cases hz : (q != 0)
  rotate_left
  · have HN : Aside (¬ q = 0) := by show ¬ _; simpa using hz
    go_wp2_with (refine wpList_stC rfl 32 _ _ (by rfl) (w.heap.size + 1 + 1) C.zs (C.sail P.zeroS A.zeroS) Tryz.sizeSail (by rfl) (by rfl) HZ1.out rfl (sail_one _ _) ?_; intro w9 hr9 hg9)
    exact bodyPost_ret (res2 rfl hr9 _ rfl rfl Tryz.underlying32 rfl Tryz.sizeSail) rfl ⟨q, P.zeroS, A.zeroS, rfl, .inl ⟨q, HQ.out, HN.out, rfl, rfl⟩, SailUp.zero _ _, below_gr hB1 hB1.size hg9 (by omega)⟩
  obtain rfl : q = 0 := by simpa using hz
  clear hz
  obtain ⟨d0, d1, d2, d3, d4, d5, d6, d7, d8, d9, d10, d11, d12⟩ := SRow.box HX1.out
  obtain ⟨z0, z1, z2, z3, z4, z5, z6, z7, z8, z9, z10⟩ := HY1.out.bbox
  go_wp2_with fail
  refine (named_sells x a b fo fc _ (HS.out.below hB1) HQ.out (SlAt.below Fo.REnt.mono HF.out hB1)).mono ?_
  rintro e w2 ⟨r, y, a2, rfl, hS2, hU2, hb2⟩
  have HS2 : Aside (P.Sells 1 x b r y) := hS2
  have HU2 : Aside (SailUp w1.heap.size w2 y a2) := hU2
  have HZ2 : Aside (RowIs w2 (w.heap.size + 1 + 1) C.zs) := HZ1.out.below hb2
  have hB2 := bvia hB1 hb2
  have hlt1 : w.heap.size + 1 + 1 < w1.heap.size := HZ1.out.lt
  clear d0 d1 d2 d3 d4 d5 d6 d7 d8 d9 d10 d11 d12 z0 z1 z2 z3 z4 z5 z6 z7 z8 z9 z10 hS2 hU2 hb2
  go_wp2_with (refine wpList_stC rfl 32 _ _ (by rfl) (w.heap.size + 1 + 1) C.zs (C.sail y a2) Tryz.sizeSail (by rfl) (by rfl) HZ2.out rfl (sail_one _ _) ?_; intro w9 hr9 hg9)
  exact bodyPost_ret (res2 rfl hr9 _ rfl rfl Tryz.underlying32 rfl Tryz.sizeSail) rfl ⟨r, y, a2, rfl, .inr ⟨HQ.out, HS2.out⟩, SailUp.mono (SailUp.up HU2.out (Up.gr hg9 hlt1)) (by omega), below_gr hB2 hB2.size hg9 (by omega)⟩

set_option maxHeartbeats 4000000 in
theorem sellPromise_any (x : Sail) (a : SailA) (b : Bkg) (fo : Option Addr) (fc : Nat) (w : World) (hs : SailAt w x a) (hf : Fo.EntsAt w fo fc b.fol) :
    Calls Tryz.prog 12 #[V.sail x a, V.bk b fo fc] w fun e w' => ∃ r y a', e = .returned (.tuple #[V.sail y a', .int .i64 r]) ∧ P.SellS 2 x b r y ∧ SailUp w.heap.size w' y a' ∧ Below w.heap.size w w' := by
  have hb0 : Below w.heap.size w ((W.bk (W.sail w x a) b fo fc).alloc O.zs) := bvia (sail_below w x a) (bvia (bk_below _ b fo fc) (by go_grown))
  have HX0 : Aside (SRow ((W.bk (W.sail w x a) b fo fc).alloc O.zs) w.heap.size x a) := ((RowIs.new w _ _ : SRow (W.sail w x a) w.heap.size x a).below (bk_below _ b fo fc)).below (by go_grown)
  have HY0 : Aside (RowIs ((W.bk (W.sail w x a) b fo fc).alloc O.zs) (w.heap.size + 1) (C.bk b fo fc)) := by
    have := (RowIs.new (W.sail w x a) (C.bk b fo fc) 37).below (w' := (W.bk (W.sail w x a) b fo fc).alloc O.zs) (by go_grown)
    rwa [World.size_alloc] at this
  have HZ0 : Aside (RowIs ((W.bk (W.sail w x a) b fo fc).alloc O.zs) (w.heap.size + 1 + 1) C.zs) := by
    have := RowIs.new (W.bk (W.sail w x a) b fo fc) C.zs 32
    rwa [World.size_alloc, World.size_alloc] at this
  have HS : Aside (SailAt w x a) := hs
  have HF : Aside (Fo.EntsAt w fo fc b.fol) := hf
  clear hs hf
  obtain ⟨d0, d1, d2, d3, d4, d5, d6, d7, d8, d9, d10, d11, d12⟩ := SRow.box HX0.out
  go_enter Tryz.func12, Tryz.ntmps12
  go_wp2_with fail
  refine (stockCheck_any x a _ (HS.out.below hb0)).mono ?_
  rintro e w1 ⟨q, rfl, hq, hb1⟩
  have HQ : Aside (P.SailE x q) := hq
  have hB1 := bvia hb0 hb1
  have HX1 : Aside (SRow w1 w.heap.size x a) := HX0.out.below hb1
  have HY1 : Aside (RowIs w1 (w.heap.size + 1) (C.bk b fo fc)) := HY0.out.below hb1
  have HZ1 : Aside (RowIs w1 (w.heap.size + 1 + 1) C.zs) := HZ0.out.below hb1
  clear d0 d1 d2 d3 d4 d5 d6 d7 d8 d9 d10 d11 d12 HX0 HY0 HZ0 hb0 hb1 hq
  cases hz : (q != 0)
  rotate_left
  · have HN : Aside (¬ q = 0) := by show ¬ _; simpa using hz
    go_wp2_with (refine wpList_stC rfl 32 _ _ (by rfl) (w.heap.size + 1 + 1) C.zs (C.sail P.zeroS A.zeroS) Tryz.sizeSail (by rfl) (by rfl) HZ1.out rfl (sail_one _ _) ?_; intro w9 hr9 hg9)
    exact bodyPost_ret (res2 rfl hr9 _ rfl rfl Tryz.underlying32 rfl Tryz.sizeSail) rfl ⟨q, P.zeroS, A.zeroS, rfl, .inl ⟨q, HQ.out, HN.out, rfl, rfl⟩, SailUp.zero _ _, below_gr hB1 hB1.size hg9 (by omega)⟩
  obtain rfl : q = 0 := by simpa using hz
  clear hz
  obtain ⟨d0, d1, d2, d3, d4, d5, d6, d7, d8, d9, d10, d11, d12⟩ := SRow.box HX1.out
  obtain ⟨z0, z1, z2, z3, z4, z5, z6, z7, z8, z9, z10⟩ := HY1.out.bbox
  go_wp2_with fail
  refine (promise_sells x a b fo fc _ (HS.out.below hB1) HQ.out (SlAt.below Fo.REnt.mono HF.out hB1)).mono ?_
  rintro e w2 ⟨r, y, a2, rfl, hS2, hU2, hb2⟩
  have HS2 : Aside (P.Sells 2 x b r y) := hS2
  have HU2 : Aside (SailUp w1.heap.size w2 y a2) := hU2
  have HZ2 : Aside (RowIs w2 (w.heap.size + 1 + 1) C.zs) := HZ1.out.below hb2
  have hB2 := bvia hB1 hb2
  have hlt1 : w.heap.size + 1 + 1 < w1.heap.size := HZ1.out.lt
  clear d0 d1 d2 d3 d4 d5 d6 d7 d8 d9 d10 d11 d12 z0 z1 z2 z3 z4 z5 z6 z7 z8 z9 z10 hS2 hU2 hb2
  go_wp2_with (refine wpList_stC rfl 32 _ _ (by rfl) (w.heap.size + 1 + 1) C.zs (C.sail y a2) Tryz.sizeSail (by rfl) (by rfl) HZ2.out rfl (sail_one _ _) ?_; intro w9 hr9 hg9)
  exact bodyPost_ret (res2 rfl hr9 _ rfl rfl Tryz.underlying32 rfl Tryz.sizeSail) rfl ⟨r, y, a2, rfl, .inr ⟨HQ.out, HS2.out⟩, SailUp.mono (SailUp.up HU2.out (Up.gr hg9 hlt1)) (by omega), below_gr hB2 hB2.size hg9 (by omega)⟩

end Go.Proofs.YtlamhfbdeinkkaeGreat.St
