/- Package sell: named, promise, Named, Promise. -/
import Derived.Test.YtlamhfbdeinkkaeGreatSeEr
import Derived.Test.YtlamhfbdeinkkaeGreatStTr
import Derived.Deep.RegionHeld3
namespace Go.Proofs.YtlamhfbdeinkkaeGreat.St
open Go.RowKit Bk
set_option linter.unusedSimpArgs false
set_option linter.unusedVariables false
set_option maxRecDepth 10000

/-- A sailing, stored cell by cell. -/
abbrev W.putS (w : World) (g : Nat) (x : Sail) (a : SailA) : World := (((((((((((((w.setCell ⟨g, 0, none⟩ (.int .i64 x.s.legs)).setCell ⟨g, 1, none⟩ (.int .i64 x.s.souls)).setCell ⟨g, 2, none⟩ (.slice a.v.cao x.s.cs.length a.v.cc)).setCell ⟨g, 3, none⟩ (.slice a.v.bao x.s.bs.length a.v.bc)).setCell ⟨g, 4, none⟩ (.slice a.lo x.L.length a.lc)).setCell ⟨g, 5, none⟩ (.int .i64 x.al)).setCell ⟨g, 6, none⟩ (.int .i64 x.th)).setCell ⟨g, 7, none⟩ (.slice a.bo x.B.length a.bc)).setCell ⟨g, 8, none⟩ (.int .i64 x.dn)).setCell ⟨g, 9, none⟩ (.int .i64 x.day)).setCell ⟨g, 10, none⟩ (.int .i64 x.lvs)).setCell ⟨g, 11, none⟩ (.slice a.ao x.bks.length a.cap)).setCell ⟨g, 12, none⟩ (.bool x.cl))
theorem putS_eq (w : World) (g : Nat) (x : Sail) (a : SailA) : W.putS w g x a = w.setCells g 0 (C.sail x a).toList := rfl
theorem putS_row {w : World} {g : Nat} {old : Array Value} (x : Sail) (a : SailA) (h : RowIs w g old) (ho : old.size = 13) : SRow (W.putS w g x a) g x a ∧ w.grownBy (W.putS w g x a) (some g) := by
  obtain ⟨t, h⟩ := h
  have hone : ∀ v ∈ (C.sail x a).toList, v.oneCell' = true := fun v hv => (Array.all_eq_true_iff_forall_mem.1 (sail_one x a)) v (by simpa using hv)
  have e := setCells_row w g 0 t (C.sail x a).toList old h (by rw [ho]; exact Nat.le_refl _) hone
  have e2 : (old.toList.take 0 ++ (C.sail x a).toList ++ old.toList.drop (0 + (C.sail x a).toList.length)).toArray = C.sail x a := by
    have : old.toList.drop (0 + (C.sail x a).toList.length) = [] := List.drop_of_length_le (by rw [Array.length_toList, ho]; exact Nat.le_refl _)
    rw [this, List.append_nil, List.take_zero, List.nil_append]
  rw [e2] at e
  rw [putS_eq, e]
  exact ⟨⟨t, setRow_heap w g old _ t (0, 0) h⟩, rfl, rfl, rfl, by simp, fun i hi hne => setRow_other w g i _ (fun e => hne (by rw [e]))⟩

theorem putS_keep {U : World} {g b k : Nat} {v : Value} (x : Sail) (a : SailA) (hb : b ≠ g) (h : U.cell? ⟨b, k, none⟩ = some v) : (W.putS U g x a).cell? ⟨b, k, none⟩ = some v := by
  rw [putS_eq, World.cell?_setCells_out g (C.sail x a).toList 0 U ⟨b, k, none⟩ (fun e => absurd e hb)]
  exact h
theorem fin_putS {fn : Func} {R : Ending → World → Prop} {act : Act} {w5 : World} {g p q : Nat} {y : Sail} {a : SailA} {r : Int} (hres : fn.results = #[.cell p 32, .tmp q]) (hp : act.tmps.getD p undef = .pointer (some ⟨g, 0, none⟩)) (hq : act.tmps.getD q undef = .int .i64 r) (hd : act.defers = []) (hZ : RowIs w5 g C.zs)
    (hR : ∀ w9, w5.grownBy w9 (some g) → R (.returned (.tuple #[V.sail y a, .int .i64 r])) w9) : bodyPost Tryz.prog fn R .ret act (W.putS w5 g y a) := by
  obtain ⟨h1, h2⟩ := putS_row y a hZ rfl
  exact bodyPost_ret (res2 hres h1 _ hp hq Tryz.underlying32 rfl Tryz.sizeSail) hd (hR _ h2)
theorem zs_cells {w : World} {g : Nat} (h : RowIs w g C.zs) : w.cell? ⟨g, 0, none⟩ = some (.int .i64 0) ∧ w.cell? ⟨g, 1, none⟩ = some (.int .i64 0) ∧ w.cell? ⟨g, 2, none⟩ = some (.slice none 0 0) ∧ w.cell? ⟨g, 3, none⟩ = some (.slice none 0 0) ∧ w.cell? ⟨g, 4, none⟩ = some (.slice none 0 0) ∧ w.cell? ⟨g, 5, none⟩ = some (.int .i64 0) ∧ w.cell? ⟨g, 6, none⟩ = some (.int .i64 0) ∧ w.cell? ⟨g, 7, none⟩ = some (.slice none 0 0) ∧ w.cell? ⟨g, 8, none⟩ = some (.int .i64 0) ∧ w.cell? ⟨g, 9, none⟩ = some (.int .i64 0) ∧ w.cell? ⟨g, 10, none⟩ = some (.int .i64 0) ∧ w.cell? ⟨g, 11, none⟩ = some (.slice none 0 0) ∧ w.cell? ⟨g, 12, none⟩ = some (.bool false) :=
  ⟨h.cell 0, h.cell 1, h.cell 2, h.cell 3, h.cell 4, h.cell 5, h.cell 6, h.cell 7, h.cell 8, h.cell 9, h.cell 10, h.cell 11, h.cell 12⟩
theorem sell_arg (v : Value) (k : Int) (x : Sail) (a : SailA) (b : Bkg) (fo : Option Addr) (fc : Nat) (cat : Int) (w : World) (hv : v = V.sail x a) (hk : k = 1 ∨ k = 2) (hs : SailAt w x a) (hE : P.SailE x 0) (hkb : b.kind = k) (hbk : P.bkE x.s b = 0) (hsE : P.sellE k x b = P.midE x b) (hcat : P.catOf k x b = cat) :
    Calls Tryz.prog 103 #[v, V.bk b fo fc, .int .i64 cat] w fun e w' => ∃ r y a', e = .returned (.tuple #[V.sail y a', .int .i64 r]) ∧ P.Sells k x b r y ∧ SailUp w.heap.size w' y a' ∧ Below w.heap.size w w' := by
  subst hv
  exact sell_any k x a b fo fc cat w hk hs hE hkb hbk hsE hcat
theorem sold_not {k : Int} {x : Sail} {b : Bkg} (h : P.sold b k = false) : P.sellE k x b = 7 := by
  rw [P.sellE, if_neg]
  intro hc
  simp [P.sold, hc.1] at h
  exact hc.2 h
theorem sold_yes {k : Int} {b : Bkg} (h : P.sold b k = true) : b.kind = k ∧ b.state ≠ 3 := by
  simpa [P.sold] using h

set_option maxHeartbeats 16000000 in
theorem named_sells (x : Sail) (a : SailA) (b : Bkg) (fo : Option Addr) (fc : Nat) (w : World) (hs : SailAt w x a) (hE : P.SailE x 0) (hf : Fo.EntsAt w fo fc b.fol) :
    Calls Tryz.prog 48 #[V.sail x a, V.bk b fo fc] w fun e w' => ∃ r y a', e = .returned (.tuple #[V.sail y a', .int .i64 r]) ∧ P.Sells 1 x b r y ∧ SailUp w.heap.size w' y a' ∧ Below w.heap.size w w' := by
  obtain ⟨hp, hfr, h0, hbks, h16, _⟩ := sail_ok hE
  have HS : Aside (SailAt w x a) := hs
  have HE : Aside (P.SailE x 0) := hE
  have HF : Aside (Fo.EntsAt w fo fc b.fol) := hf
  have H0 : Aside (P.shp x.s = 0) := h0
  have hb0 : Below w.heap.size w (W.sell w x a b fo fc) := bvia (sel_below w x a) (bvia (bk_below _ b fo fc) (by go_grown))
  have HX0 : Aside (SRow (W.sell w x a b fo fc) w.heap.size x a) := ((sel_row w x a).below (bk_below _ b fo fc)).below (by go_grown)
  have HY0 : Aside (RowIs (W.sell w x a b fo fc) (w.heap.size + 1) (C.bk b fo fc)) := by
    have := (RowIs.new (W.sel w x a) (C.bk b fo fc) 37).below (w' := W.sell w x a b fo fc) (by go_grown)
    rwa [World.size_alloc] at this
  have HZ0 : Aside (RowIs (W.sell w x a b fo fc) (w.heap.size + 1 + 1) C.zs) := by
    have := RowIs.new (W.bk (W.sel w x a) b fo fc) C.zs 32
    rwa [World.size_alloc, World.size_alloc] at this
  clear hs hE hf h0 hp hfr hbks
  obtain ⟨z0, z1, z2, z3, z4, z5, z6, z7, z8, z9, z10⟩ := HY0.out.bbox
  go_enter Tryz.func48, Tryz.ntmps48
  go_wp2_with fail
  refine (isSold_any b fo fc 1 _).mono ?_
  rintro e w1 ⟨rfl, hb1⟩
  have hB1 := bvia hb0 hb1
  have HX1 : Aside (SRow w1 w.heap.size x a) := HX0.out.below hb1
  have HY1 : Aside (RowIs w1 (w.heap.size + 1) (C.bk b fo fc)) := HY0.out.below hb1
  have HZ1 : Aside (RowIs w1 (w.heap.size + 1 + 1) C.zs) := HZ0.out.below hb1
  clear z0 z1 z2 z3 z4 z5 z6 z7 z8 z9 z10 HX0 HY0 HZ0 hb0 hb1
  cases hsd : P.sold b 1
  · have HM : Aside (P.sellE 1 x b = 7) := sold_not hsd
    go_wp2_with (refine wpList_stC rfl 32 _ _ (by rfl) (w.heap.size + 1 + 1) C.zs (C.sail P.zeroS A.zeroS) Tryz.sizeSail (by rfl) (by rfl) HZ1.out rfl (sail_one _ _) ?_; intro w9 hr9 hg9)
    exact bodyPost_ret (res2 rfl hr9 _ rfl rfl Tryz.underlying32 rfl Tryz.sizeSail) rfl ⟨7, P.zeroS, A.zeroS, rfl, .inl ⟨by rw [HM.out]; decide, HM.out.symm, rfl⟩, SailUp.zero _ _, below_gr hB1 hB1.size hg9 (by omega)⟩
  have HSD : Aside (b.kind = 1 ∧ b.state ≠ 3) := sold_yes hsd
  clear hsd
  have z10 := HY1.out.cell 10
  by_cases hfo : 0 < b.fol.length
  · have HM : Aside (P.sellE 1 x b = 1) := by show _ = _; rw [P.sellE, if_pos HSD.out, if_pos (.inl hfo)]
    have hfo2 : (0 : Int) < (b.fol.length : Int) := by omega
    go_wp2_with (refine wpList_stC rfl 32 _ _ (by rfl) (w.heap.size + 1 + 1) C.zs (C.sail P.zeroS A.zeroS) Tryz.sizeSail (by rfl) (by rfl) HZ1.out rfl (sail_one _ _) ?_; intro w9 hr9 hg9)
    exact bodyPost_ret (res2 rfl hr9 _ rfl rfl Tryz.underlying32 rfl Tryz.sizeSail) rfl ⟨1, P.zeroS, A.zeroS, rfl, .inl ⟨by rw [HM.out]; decide, HM.out.symm, rfl⟩, SailUp.zero _ _, below_gr hB1 hB1.size hg9 (by omega)⟩
  have hfo2 : ¬ (0 : Int) < (b.fol.length : Int) := by omega
  have HFO : Aside (¬ 0 < b.fol.length) := hfo
  clear hfo
  obtain ⟨d0, d1, d2, d3, d4, d5, d6, d7, d8, d9, d10, d11, d12⟩ := SRow.box HX1.out
  clear z10
  obtain ⟨z0, z1, z2, z3, z4, z5, z6, z7, z8, z9, z10⟩ := HY1.out.bbox
  go_wp2_with fail
  refine (bkC_any x a b fo fc _ (HS.out.below hB1).ship (SlAt.below Fo.REnt.mono HF.out hB1) H0.out).mono ?_
  rintro e w2 ⟨rfl, hb2⟩
  have hB2 := bvia hB1 hb2
  have HX2 : Aside (SRow w2 w.heap.size x a) := HX1.out.below hb2
  have HY2 : Aside (RowIs w2 (w.heap.size + 1) (C.bk b fo fc)) := HY1.out.below hb2
  have HZ2 : Aside (RowIs w2 (w.heap.size + 1 + 1) C.zs) := HZ1.out.below hb2
  clear d0 d1 d2 d3 d4 d5 d6 d7 d8 d9 d10 d11 d12 z0 z1 z2 z3 z4 z5 z6 z7 z8 z9 z10 HX1 HY1 HZ1 hb2 hB1 hfo2
  cases hk : (P.bkE x.s b != 0)
  rotate_left
  · have HN : Aside (¬ P.bkE x.s b = 0) := by show ¬ _; simpa using hk
    have HM : Aside (P.sellE 1 x b = P.bkE x.s b) := by show _ = _; rw [P.sellE, if_pos HSD.out, if_neg (fun h => h.elim HFO.out (fun h => absurd h.1 (by decide))), if_neg HN.out]
    go_wp2_with (refine wpList_stC rfl 32 _ _ (by rfl) (w.heap.size + 1 + 1) C.zs (C.sail P.zeroS A.zeroS) Tryz.sizeSail (by rfl) (by rfl) HZ2.out rfl (sail_one _ _) ?_; intro w9 hr9 hg9)
    exact bodyPost_ret (res2 rfl hr9 _ rfl rfl Tryz.underlying32 rfl Tryz.sizeSail) rfl ⟨_, P.zeroS, A.zeroS, rfl, .inl ⟨by rw [HM.out]; exact HN.out, HM.out.symm, rfl⟩, SailUp.zero _ _, below_gr hB2 hB2.size hg9 (by omega)⟩
  have HK : Aside (P.bkE x.s b = 0) := by show _ = _; simpa using hk
  have HL : Aside (P.sellE 1 x b = P.lateE 1 x b) := by show _ = _; rw [P.sellE, if_pos HSD.out, if_neg (fun h => h.elim HFO.out (fun h => absurd h.1 (by decide))), if_pos HK.out]
  clear hk
  rw [HK.out]
  obtain ⟨d0, d1, d2, d3, d4, d5, d6, d7, d8, d9, d10, d11, d12⟩ := SRow.box HX2.out
  go_wp2_with fail
  refine (hasLeft_any x a _).mono ?_
  rintro e w3 ⟨rfl, hb3⟩
  have hB3 := bvia hB2 hb3
  have HX3 : Aside (SRow w3 w.heap.size x a) := HX2.out.below hb3
  have HY3 : Aside (RowIs w3 (w.heap.size + 1) (C.bk b fo fc)) := HY2.out.below hb3
  have HZ3 : Aside (RowIs w3 (w.heap.size + 1 + 1) C.zs) := HZ2.out.below hb3
  clear d0 d1 d2 d3 d4 d5 d6 d7 d8 d9 d10 d11 d12 HX2 HY2 HZ2 hb3 hB2
  by_cases hl : x.lvs ≤ x.day
  · have HM : Aside (P.sellE 1 x b = 4) := by show _ = _; rw [HL.out, P.lateE, if_pos (.inl (.inl hl))]
    have hld : decide (x.lvs ≤ x.day) = true := by simpa using hl
    rw [hld]
    go_wp2_with (refine wpList_stC rfl 32 _ _ (by rfl) (w.heap.size + 1 + 1) C.zs (C.sail P.zeroS A.zeroS) Tryz.sizeSail (by rfl) (by rfl) HZ3.out rfl (sail_one _ _) ?_; intro w9 hr9 hg9)
    exact bodyPost_ret (res2 rfl hr9 _ rfl rfl Tryz.underlying32 rfl Tryz.sizeSail) rfl ⟨4, P.zeroS, A.zeroS, rfl, .inl ⟨by rw [HM.out]; decide, HM.out.symm, rfl⟩, SailUp.zero _ _, below_gr hB3 hB3.size hg9 (by omega)⟩
  have HLV : Aside (¬ x.lvs ≤ x.day) := hl
  have hld : decide (x.lvs ≤ x.day) = false := by simpa using hl
  rw [hld]
  clear hl hld
  obtain ⟨d0, d1, d2, d3, d4, d5, d6, d7, d8, d9, d10, d11, d12⟩ := SRow.box HX3.out
  obtain ⟨z0, z1, z2, z3, z4, z5, z6, z7, z8, z9, z10⟩ := HY3.out.bbox
  go_wp2_with fail
  refine (mayWait_any x a b fo fc _).mono ?_
  rintro e w4 ⟨rfl, hb4⟩
  have hB4 := bvia hB3 hb4
  have HX4 : Aside (SRow w4 w.heap.size x a) := HX3.out.below hb4
  have HY4 : Aside (RowIs w4 (w.heap.size + 1) (C.bk b fo fc)) := HY3.out.below hb4
  have HZ4 : Aside (RowIs w4 (w.heap.size + 1 + 1) C.zs) := HZ3.out.below hb4
  clear d0 d1 d2 d3 d4 d5 d6 d7 d8 d9 d10 d11 d12 z0 z1 z2 z3 z4 z5 z6 z7 z8 z9 z10 HX3 HY3 HZ3 hb4 hB3
  cases hw : P.waits x b
  · have HM : Aside (P.sellE 1 x b = 4) := by show _ = _; rw [HL.out, P.lateE, if_pos (.inl (.inr hw))]
    go_wp2_with (refine wpList_stC rfl 32 _ _ (by rfl) (w.heap.size + 1 + 1) C.zs (C.sail P.zeroS A.zeroS) Tryz.sizeSail (by rfl) (by rfl) HZ4.out rfl (sail_one _ _) ?_; intro w9 hr9 hg9)
    exact bodyPost_ret (res2 rfl hr9 _ rfl rfl Tryz.underlying32 rfl Tryz.sizeSail) rfl ⟨4, P.zeroS, A.zeroS, rfl, .inl ⟨by rw [HM.out]; decide, HM.out.symm, rfl⟩, SailUp.zero _ _, below_gr hB4 hB4.size hg9 (by omega)⟩
  have HM : Aside (P.sellE 1 x b = P.midE x b) := by
    show _ = _
    rw [HL.out, P.lateE, if_neg (fun h => h.elim (fun h => h.elim (Int.not_le.2 HLV.out) (fun h => by rw [hw] at h; cases h)) (fun h => absurd h.1 (by decide)))]
    rfl
  clear hw
  obtain ⟨bb, off, c, hc0, hc1, ec, hm, ebao, q0, q1, q2, q3⟩ := cab_get' HS.out.ship hB4 (kind_named (bk_ok HK.out).2.2.2.2.2.1 HSD.out.1)
  have HCAT : Aside (P.catOf 1 x b = c.2.1) := by show _ = _; rw [P.catOf, if_pos rfl, ec]
  have HBAO : Aside (a.v.bao = some ⟨bb, off, none⟩) := ebao
  obtain ⟨d0, d1, d2, d3, d4, d5, d6, d7, d8, d9, d10, d11, d12⟩ := SRow.box HX4.out
  rw [ebao] at d3
  obtain ⟨z0, z1, z2, z3, z4, z5, z6, z7, z8, z9, z10⟩ := HY4.out.bbox
  have HBB : Aside (bb < w.heap.size) := by
    obtain ⟨b2, o2, _, _, _, _, _, e2, h2, _⟩ := cab_get' HS.out.ship (Below.refl _ _) (kind_named (bk_ok HK.out).2.2.2.2.2.1 HSD.out.1)
    rw [ebao] at e2
    cases e2
    exact World.block_lt_of_cell? w _ h2
  clear ec hm ebao q0 q2 q3
  go_wp2_with fail
  have hne1 : w.heap.size ≠ w.heap.size + 1 + 1 := by omega
  have hne2 : w.heap.size + 1 ≠ w.heap.size + 1 + 1 := by omega
  have hbbw : bb < w.heap.size := HBB.out
  have hne3 : bb ≠ w.heap.size + 1 + 1 := by omega
  go_region_held3 (fun u => u.cell? ⟨w.heap.size, 0, none⟩ = some (.int .i64 x.s.legs) ∧ u.cell? ⟨w.heap.size, 1, none⟩ = some (.int .i64 x.s.souls) ∧ u.cell? ⟨w.heap.size, 2, none⟩ = some (.slice a.v.cao x.s.cs.length a.v.cc) ∧ u.cell? ⟨w.heap.size, 3, none⟩ = some (.slice (some ⟨bb, off, none⟩) x.s.bs.length a.v.bc) ∧ u.cell? ⟨w.heap.size, 4, none⟩ = some (.slice a.lo x.L.length a.lc) ∧ u.cell? ⟨w.heap.size, 5, none⟩ = some (.int .i64 x.al) ∧ u.cell? ⟨w.heap.size, 6, none⟩ = some (.int .i64 x.th) ∧ u.cell? ⟨w.heap.size, 7, none⟩ = some (.slice a.bo x.B.length a.bc) ∧ u.cell? ⟨w.heap.size, 8, none⟩ = some (.int .i64 x.dn) ∧ u.cell? ⟨w.heap.size, 9, none⟩ = some (.int .i64 x.day) ∧ u.cell? ⟨w.heap.size, 10, none⟩ = some (.int .i64 x.lvs) ∧ u.cell? ⟨w.heap.size, 11, none⟩ = some (.slice a.ao x.bks.length a.cap) ∧ u.cell? ⟨w.heap.size, 12, none⟩ = some (.bool x.cl) ∧ u.cell? ⟨w.heap.size + 1, 0, none⟩ = some (.int .i64 b.id) ∧ u.cell? ⟨w.heap.size + 1, 1, none⟩ = some (.int .i64 b.kind) ∧ u.cell? ⟨w.heap.size + 1, 2, none⟩ = some (.int .i64 b.state) ∧ u.cell? ⟨w.heap.size + 1, 3, none⟩ = some (.int .i64 b.guests) ∧ u.cell? ⟨w.heap.size + 1, 4, none⟩ = some (.bool b.level) ∧ u.cell? ⟨w.heap.size + 1, 5, none⟩ = some (.int .i64 b.cabin) ∧ u.cell? ⟨w.heap.size + 1, 6, none⟩ = some (.int .i64 b.cat) ∧ u.cell? ⟨w.heap.size + 1, 7, none⟩ = some (.int .i64 b.frm) ∧ u.cell? ⟨w.heap.size + 1, 8, none⟩ = some (.int .i64 b.to) ∧ u.cell? ⟨w.heap.size + 1, 9, none⟩ = some (.int .i64 b.til) ∧ u.cell? ⟨w.heap.size + 1, 10, none⟩ = some (.slice fo b.fol.length fc) ∧ u.cell? ⟨bb, off + b.cabin.toNat * 4 + 1, none⟩ = some (.int .i64 c.2.1))
    (first
      | with_reducible exact ⟨e0, e1, e2, e3, e4, e5, e6, e7, e8, e9, e10, e11, e12, y0, y1, y2, y3, y4, y5, y6, y7, y8, y9, y10, q5⟩
      | with_reducible exact ⟨d0, d1, d2, d3, d4, d5, d6, d7, d8, d9, d10, d11, d12, z0, z1, z2, z3, z4, z5, z6, z7, z8, z9, z10, q1⟩
      | with_reducible exact ⟨putS_keep _ _ hne1 e0, putS_keep _ _ hne1 e1, putS_keep _ _ hne1 e2, putS_keep _ _ hne1 e3, putS_keep _ _ hne1 e4, putS_keep _ _ hne1 e5, putS_keep _ _ hne1 e6, putS_keep _ _ hne1 e7, putS_keep _ _ hne1 e8, putS_keep _ _ hne1 e9, putS_keep _ _ hne1 e10, putS_keep _ _ hne1 e11, putS_keep _ _ hne1 e12, putS_keep _ _ hne2 y0, putS_keep _ _ hne2 y1, putS_keep _ _ hne2 y2, putS_keep _ _ hne2 y3, putS_keep _ _ hne2 y4, putS_keep _ _ hne2 y5, putS_keep _ _ hne2 y6, putS_keep _ _ hne2 y7, putS_keep _ _ hne2 y8, putS_keep _ _ hne2 y9, putS_keep _ _ hne2 y10, putS_keep _ _ hne3 q5⟩
      | go_keep)
    (first
      | (go_at_call 103; refine (sell_arg _ 1 x a b fo fc c.2.1 _ (by simp only [V.sail, HBAO.out]) (.inl rfl) (HS.out.below (by first | exact hB4 | exact bvia hB4 (by go_grown))) HE.out HSD.out.1 HK.out HM.out HCAT.out).mono ?_; rintro e w5 ⟨r, y, a5, rfl, hS5, hU5, hb5⟩; have hb45 : Below w4.heap.size w4 w5 := (by first | exact hb5 | exact bvia (dr _) hb5); have hZ5 : RowIs w5 (w.heap.size + 1 + 1) C.zs := HZ4.out.below hb45; obtain ⟨k0, k1, k2, k3, k4, k5, k6, k7, k8, k9, k10, k11, k12⟩ := zs_cells hZ5; have f0 := hZ5.free 0; have f1 := hZ5.free 1; have f2 := hZ5.free 2; have f3 := hZ5.free 3; have f4 := hZ5.free 4; have f5 := hZ5.free 5; have f6 := hZ5.free 6; have f7 := hZ5.free 7; have f8 := hZ5.free 8; have f9 := hZ5.free 9; have f10 := hZ5.free 10; have f11 := hZ5.free 11; have f12 := hZ5.free 12; obtain ⟨e0, e1, e2, e3, e4, e5, e6, e7, e8, e9, e10, e11, e12⟩ := SRow.box (HX4.out.below hb45); rw [HBAO.out] at e3; obtain ⟨y0, y1, y2, y3, y4, y5, y6, y7, y8, y9, y10⟩ := RowIs.bbox (HY4.out.below hb45); have q5 := cellIn hb45 q1))
  all_goals
    have hlt4 : w.heap.size + 1 + 1 < w4.heap.size := HZ4.out.lt
    have HFIN : Aside (∀ w9, w5.grownBy w9 (some (w.heap.size + 1 + 1)) → ∃ r' y' a', Ending.returned (.tuple #[V.sail y a5, .int .i64 r]) = .returned (.tuple #[V.sail y' a', .int .i64 r']) ∧ P.Sells 1 x b r' y' ∧ SailUp w.heap.size w9 y' a' ∧ Below w.heap.size w w9) := fun w9 hg9 =>
      ⟨r, y, a5, rfl, hS5, SailUp.mono (SailUp.up (SailUp.mono hU5 (show w4.heap.size ≤ _ from Nat.le_refl _)) (Up.gr hg9 hlt4)) (by omega), below_gr (bvia hB4 hb45) (bvia hB4 hb45).size hg9 (by omega)⟩
    have HZ5 : Aside (RowIs w5 (w.heap.size + 1 + 1) C.zs) := hZ5
    clear HS HE HF H0 HX4 HY4 HZ4 HM HCAT HK HL hS5 hU5 hb5 hb45 hZ5 d0 d1 d2 d3 d4 d5 d6 d7 d8 d9 d10 d11 d12 z0 z1 z2 z3 z4 z5 z6 z7 z8 z9 z10 e0 e1 e2 e3 e4 e5 e6 e7 e8 e9 e10 e11 e12 y0 y1 y2 y3 y4 y5 y6 y7 y8 y9 y10 k0 k1 k2 k3 k4 k5 k6 k7 k8 k9 k10 k11 k12 f0 f1 f2 f3 f4 f5 f6 f7 f8 f9 f10 f11 f12 q1 q5
    simp only [Exit.then]
    refine (‹∀ (a : Act) (w : World), Code.wp Tryz.prog Code.ret _ a w → _› _ _ ?_)
    apply wp_ret
    with_reducible exact fin_putS rfl rfl rfl rfl HZ5.out HFIN.out

end Go.Proofs.YtlamhfbdeinkkaeGreat.St
