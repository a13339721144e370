/- Package sell: sell. -/
import Derived.Test.YtlamhfbdeinkkaeGreatSeDr
import Derived.Test.YtlamhfbdeinkkaeGreatStRr
namespace Go.Proofs.YtlamhfbdeinkkaeGreat.St
open Go.RowKit Bk
set_option linter.unusedSimpArgs false
set_option linter.unusedVariables false
set_option maxRecDepth 10000

/-- What is left to be wrong. -/
def P.midE (x : Sail) (b : Bkg) : Int := if P.isIn b.id x.bks = true then 6 else if 16 ≤ x.bks.length then 2 else 0
theorem sell1_calls : ∀ (args : Array Value) (wx : World), (callFunc 162 args).run Tryz.prog wx = .ok (.enter 162 args) wx := enters_of Tryz.func162 (by kernel_rfl) rfl
/-- What anew.Sailing answers, told as sell does. -/
theorem anew_sells {k : Int} {x : Sail} {b : Bkg} {r : Int} {y : Sail} (hk : k = 1 ∨ k = 2) (hE : P.SailE x 0) (h : P.sellE k x b = 0) (ha : P.Anew (fun r => r = 0) (fun y => y = P.withB x (P.priced k x b)) r y) : P.Sells k x b (if r = 2 then 8 else r) y := by
  rcases ha with ⟨rfl, h1, _⟩ | ⟨_, z, q, rfl, hq, h1⟩
  · exact absurd rfl h1
  · have hs := sells_of hk hE h hq
    rcases h1 with ⟨rfl, rfl, rfl⟩ | ⟨h2, rfl, rfl⟩
    · simpa using hs
    · rw [if_neg h2] at hs
      exact hs
/-- The world of 'sell' ahead of its first statement. -/
abbrev W.sell (w : World) (x : Sail) (a : SailA) (b : Bkg) (fo : Option Addr) (fc : Nat) : World := (W.bk (W.sel w x a) b fo fc).alloc O.zs

set_option maxHeartbeats 16000000 in
theorem sell_any (k : Int) (x : Sail) (a : SailA) (b : Bkg) (fo : Option Addr) (fc : Nat) (cat : Int) (w : World) (hk : k = 1 ∨ k = 2) (hs : SailAt w x a) (hE : P.SailE x 0) (hkb : b.kind = k) (hbk : P.bkE x.s b = 0) (hsE : P.sellE k x b = P.midE x b) (hcat : P.catOf k x b = cat) :
    Calls Tryz.prog 103 #[V.sail x a, V.bk b fo fc, .int .i64 cat] w fun e w' => ∃ r y a', e = .returned (.tuple #[V.sail y a', .int .i64 r]) ∧ P.Sells k x b r y ∧ SailUp w.heap.size w' y a' ∧ Below w.heap.size w w' := by
  obtain ⟨hp, hfr, h0, hbks, h16, _⟩ := sail_ok hE
  have hrise := (bksI_rise (pre_zero hp).2.1).2
  have hle := hs.ship.cats.le
  have hmx := hs.ship.cats.max
  unfold maxLen at hmx
  have HFE : Aside (Fo.P.priceE x.L x.al x.th x.B x.dn x.s.cs.length x.s.legs cat b.frm b.to b.guests = 0) := by
    have := fee_ok hk hfr hkb hbk
    rw [hcat] at this
    exact this
  have HFV : Aside (Fo.P.price x.L x.al x.th x.B x.dn x.s.cs.length x.s.legs cat b.frm b.to b.guests = P.fee k x b) := by
    show _ = _
    rw [P.fee, hcat]
  have HS : Aside (SailAt w x a) := hs
  have HE : Aside (P.SailE x 0) := hE
  have HK : Aside (k = 1 ∨ k = 2) := hk
  have HSE : Aside (P.sellE k x b = P.midE x b) := hsE
  have HRI : Aside (x.bks.Pairwise (fun a b => a.id < b.id)) := hrise
  have hb0 : Below w.heap.size w (W.sell w x a b fo fc) := bvia (sel_below w x a) (bvia (bk_below _ b fo fc) (by go_grown))
  have HX0 : Aside (SRow (W.sell w x a b fo fc) w.heap.size x a) := ((sel_row w x a).below (bk_below _ b fo fc)).below (by go_grown)
  have HY0 : Aside (RowIs (W.sell w x a b fo fc) (w.heap.size + 1) (C.bk b fo fc)) := by
    have := (RowIs.new (W.sel w x a) (C.bk b fo fc) 37).below (w' := W.sell w x a b fo fc) (by go_grown)
    rwa [World.size_alloc] at this
  have HZ0 : Aside (RowIs (W.sell w x a b fo fc) (w.heap.size + 1 + 1) C.zs) := by
    have := RowIs.new (W.bk (W.sel w x a) b fo fc) C.zs 32
    rwa [World.size_alloc, World.size_alloc] at this
  clear hs hE hk hsE hrise hp hfr hbks hcat hkb hbk
  obtain ⟨d0, d1, d2, d3, d4, d5, d6, d7, d8, d9, d10, d11, d12⟩ := SRow.box HX0.out
  obtain ⟨z0, z1, z2, z3, z4, z5, z6, z7, z8, z9, z10⟩ := HY0.out.bbox
  go_enter Tryz.func103, Tryz.ntmps103
  go_wp2_with fail
  refine (place_any x a b.id _ (HS.out.below hb0) (by omega) HRI.out).mono ?_
  rintro e w1 ⟨n, hn, rfl, hb1⟩
  have HP : Aside (PlaceIs x.bks b.id n) := hn
  have hbi : Below w1.heap.size w1 (w1.alloc (.cells #[.int .i64 (n : Nat)] 3)) := by go_grown
  have hb1' := bvia hb1 hbi
  have hB1 := bvia hb0 hb1'
  have HX1 : Aside (SRow (w1.alloc (.cells #[.int .i64 (n : Nat)] 3)) w.heap.size x a) := HX0.out.below hb1'
  have HY1 : Aside (RowIs (w1.alloc (.cells #[.int .i64 (n : Nat)] 3)) (w.heap.size + 1) (C.bk b fo fc)) := HY0.out.below hb1'
  have HZ1 : Aside (RowIs (w1.alloc (.cells #[.int .i64 (n : Nat)] 3)) (w.heap.size + 1 + 1) C.zs) := HZ0.out.below hb1'
  have HI1 : Aside (RowIs (w1.alloc (.cells #[.int .i64 (n : Nat)] 3)) w1.heap.size #[.int .i64 (n : Nat)]) := RowIs.new w1 _ _
  have hlt1 : w.heap.size + 1 + 1 < w1.heap.size := (HZ0.out.below hb1).lt
  clear d0 d1 d2 d3 d4 d5 d6 d7 d8 d9 d10 d11 d12 z0 z1 z2 z3 z4 z5 z6 z7 z8 z9 z10 HX0 HY0 HZ0 hb0 hb1 hb1' hn
  cases hin : P.isIn b.id x.bks
  rotate_left
  · have HM : Aside (P.sellE k x b = 6) := by show _ = _; rw [HSE.out, P.midE, if_pos hin]
    go_wp2_with (refine wpList_stC rfl 32 _ _ (by rfl) (w.heap.size + 1 + 1) C.zs (C.sail P.zeroS A.zeroS) Tryz.sizeSail (by rfl) (by rfl) HZ1.out rfl (sail_one _ _) ?_; intro w9 hr9 hg9)
    exact bodyPost_ret (res2 rfl hr9 _ rfl rfl Tryz.underlying32 rfl Tryz.sizeSail) rfl ⟨6, P.zeroS, A.zeroS, rfl, .inl ⟨by rw [HM.out]; decide, HM.out.symm, rfl⟩, SailUp.zero _ _, below_gr hB1 hB1.size hg9 (by omega)⟩
  have HNI : Aside (P.isIn b.id x.bks = false) := hin
  clear hin
  obtain ⟨d0, d1, d2, d3, d4, d5, d6, d7, d8, d9, d10, d11, d12⟩ := SRow.box HX1.out
  go_wp2_with fail
  refine (isFull_any x a _).mono ?_
  rintro e w2 ⟨rfl, hb2⟩
  have hB2 := bvia hB1 hb2
  have HX2 : Aside (SRow w2 w.heap.size x a) := HX1.out.below hb2
  have HY2 : Aside (RowIs w2 (w.heap.size + 1) (C.bk b fo fc)) := HY1.out.below hb2
  have HZ2 : Aside (RowIs w2 (w.heap.size + 1 + 1) C.zs) := HZ1.out.below hb2
  have HI2 : Aside (RowIs w2 w1.heap.size #[.int .i64 (n : Nat)]) := HI1.out.below hb2
  clear d0 d1 d2 d3 d4 d5 d6 d7 d8 d9 d10 d11 d12 HX1 HY1 HZ1 HI1 hb2 hbi
  by_cases h16' : 16 ≤ x.bks.length
  · have HM : Aside (P.sellE k x b = 2) := by show _ = _; rw [HSE.out, P.midE, if_neg (by rw [HNI.out]; decide), if_pos h16']
    go_wp2_with (refine wpList_stC rfl 32 _ _ (by rfl) (w.heap.size + 1 + 1) C.zs (C.sail P.zeroS A.zeroS) Tryz.sizeSail (by rfl) (by rfl) HZ2.out rfl (sail_one _ _) ?_; intro w9 hr9 hg9)
    exact bodyPost_ret (res2 rfl hr9 _ rfl rfl Tryz.underlying32 rfl Tryz.sizeSail) rfl ⟨2, P.zeroS, A.zeroS, rfl, .inl ⟨by rw [HM.out]; decide, HM.out.symm, rfl⟩, SailUp.zero _ _, below_gr hB2 hB2.size hg9 (by omega)⟩
  have HM : Aside (P.sellE k x b = 0) := by show _ = _; rw [HSE.out, P.midE, if_neg (by rw [HNI.out]; decide), if_neg h16']
  obtain ⟨d0, d1, d2, d3, d4, d5, d6, d7, d8, d9, d10, d11, d12⟩ := SRow.box HX2.out
  obtain ⟨z0, z1, z2, z3, z4, z5, z6, z7, z8, z9, z10⟩ := HY2.out.bbox
  go_wp2_with fail
  refine (Fo.price_any a.lo a.bo a.lc a.bc x.L x.al x.th x.B x.dn x.s.cs.length x.s.legs cat b.frm b.to b.guests _ (HS.out.below hB2).fare).mono ?_
  rintro e w3 ⟨rfl, hb3⟩
  rw [HFE.out, HFV.out]
  have hlt3 : w1.heap.size < w3.heap.size := Nat.lt_of_lt_of_le HI2.out.lt hb3.size
  have hl0 : w.heap.size < w3.heap.size := by omega
  have hl1 : w.heap.size + 1 < w3.heap.size := by omega
  obtain ⟨c0, c1, c2, c3, c4, c5, c6, c7, c8, c9, c10, c11, c12⟩ := SRow.box (HX2.out.below hb3)
  have z10' : w3.cell? ⟨w.heap.size + 1, 10, none⟩ = some (.slice fo b.fol.length fc) := (HY2.out.below hb3).cell 10
  have f10' : w3.frozen? ⟨w.heap.size + 1, 10, none⟩ = false := (HY2.out.below hb3).free 10
  have hg4 := grown_st w3 (w.heap.size + 1) 10 (.slice (some ⟨w3.heap.size, 0, none⟩) 1 1)
  have hsz4 : (w3.setCell ⟨w.heap.size + 1, 10, none⟩ (.slice (some ⟨w3.heap.size, 0, none⟩) 1 1)).heap.size = w3.heap.size := by simp [World.setCell]
  have hal : Below (w3.setCell ⟨w.heap.size + 1, 10, none⟩ (.slice (some ⟨w3.heap.size, 0, none⟩) 1 1)).heap.size (w3.setCell ⟨w.heap.size + 1, 10, none⟩ (.slice (some ⟨w3.heap.size, 0, none⟩) 1 1)) ((w3.setCell ⟨w.heap.size + 1, 10, none⟩ (.slice (some ⟨w3.heap.size, 0, none⟩) 1 1)).alloc (.cells #[.int .i64 x.day, .int .i64 1, .int .i64 (P.fee k x b)] 59)) := by go_grown
  have hB3 := bvia hB2 hb3
  have HB4 : Aside (Below w.heap.size w ((w3.setCell ⟨w.heap.size + 1, 10, none⟩ (.slice (some ⟨w3.heap.size, 0, none⟩) 1 1)).alloc (.cells #[.int .i64 x.day, .int .i64 1, .int .i64 (P.fee k x b)] 59))) := bvia (below_gr hB3 hB3.size hg4 (by omega)) hal
  have HX4 : Aside (SRow ((w3.setCell ⟨w.heap.size + 1, 10, none⟩ (.slice (some ⟨w3.heap.size, 0, none⟩) 1 1)).alloc (.cells #[.int .i64 x.day, .int .i64 1, .int .i64 (P.fee k x b)] 59)) w.heap.size x a) := ((HX2.out.below hb3).gr hg4 (by simp)).below hal
  have HZ4 : Aside (RowIs ((w3.setCell ⟨w.heap.size + 1, 10, none⟩ (.slice (some ⟨w3.heap.size, 0, none⟩) 1 1)).alloc (.cells #[.int .i64 x.day, .int .i64 1, .int .i64 (P.fee k x b)] 59)) (w.heap.size + 1 + 1) C.zs) := ((HZ2.out.below hb3).gr hg4 (by simp)).below hal
  have HI4 : Aside (RowIs ((w3.setCell ⟨w.heap.size + 1, 10, none⟩ (.slice (some ⟨w3.heap.size, 0, none⟩) 1 1)).alloc (.cells #[.int .i64 x.day, .int .i64 1, .int .i64 (P.fee k x b)] 59)) w1.heap.size #[.int .i64 (n : Nat)]) := ((HI2.out.below hb3).gr hg4 (by simp; omega)).below hal
  have HY4 : Aside (RowIs ((w3.setCell ⟨w.heap.size + 1, 10, none⟩ (.slice (some ⟨w3.heap.size, 0, none⟩) 1 1)).alloc (.cells #[.int .i64 x.day, .int .i64 1, .int .i64 (P.fee k x b)] 59)) (w.heap.size + 1) (C.bk (P.priced k x b) (some ⟨w3.heap.size, 0, none⟩) 1)) := RowIs.below (RowIs.set (k := 10) (HY2.out.below hb3) _) hal
  have HN4 : Aside (((w3.setCell ⟨w.heap.size + 1, 10, none⟩ (.slice (some ⟨w3.heap.size, 0, none⟩) 1 1)).alloc (.cells #[.int .i64 x.day, .int .i64 1, .int .i64 (P.fee k x b)] 59)).heap[w3.heap.size]? = some (.cells #[.int .i64 x.day, .int .i64 1, .int .i64 (P.fee k x b)] 59 (0, 0))) := by
    have := heap_alloc_new (w3.setCell ⟨w.heap.size + 1, 10, none⟩ (.slice (some ⟨w3.heap.size, 0, none⟩) 1 1)) (.cells #[.int .i64 x.day, .int .i64 1, .int .i64 (P.fee k x b)] 59)
    rw [hsz4] at this
    exact this
  have HC4 : Aside (((w3.setCell ⟨w.heap.size + 1, 10, none⟩ (.slice (some ⟨w3.heap.size, 0, none⟩) 1 1)).alloc (.cells #[.int .i64 x.day, .int .i64 1, .int .i64 (P.fee k x b)] 59)).heap.size = w3.heap.size + 1) := by show _ = _; rw [World.size_alloc, hsz4]
  clear d0 d1 d2 d3 d4 d5 d6 d7 d8 d9 d10 d11 d12 z0 z1 z2 z3 z4 z5 z6 z7 z8 z9 z10 HX2 HY2 HZ2 HI2 hb3 hg4 hB3 hal hsz4
  go_wp2_with fail
  generalize (w3.setCell ⟨w.heap.size + 1, 10, none⟩ (.slice (some ⟨w3.heap.size, 0, none⟩) 1 1)).alloc (.cells #[.int .i64 x.day, .int .i64 1, .int .i64 (P.fee k x b)] 59) = w4 at HB4 HX4 HZ4 HI4 HY4 HN4 HC4 ⊢
  have HH : Aside (HowOk w3.heap.size w4 x 162 #[.pointer (some ⟨w1.heap.size, 0, none⟩), .pointer (some ⟨w.heap.size + 1, 0, none⟩)] (fun r => r = 0) (fun y => y = P.withB x (P.priced k x b))) :=
    sell1_how w3.heap.size w4 x w1.heap.size (w.heap.size + 1) (P.priced k x b) (some ⟨w3.heap.size, 0, none⟩) 1 n (by omega) (HI4.out.cell 0) HY4.out.bbox (fun N U hU => ent_at (by rw [hU.2 w3.heap.size (.inl ⟨Nat.le_refl _, by rw [HC4.out]; omega⟩) (by rw [HC4.out]; omega)]; exact HN4.out)) HP.out HNI.out
  refine (anew_any w3.heap.size x a 162 _ _ _ w4 (by rw [HC4.out]; omega) (HS.out.below HB4.out) (small_of HE.out) sell1_calls HH.out).mono ?_
  rintro e w5 ⟨r, y, a5, rfl, hA, hU5, hb5⟩
  have HA : Aside (P.Sells k x b (if r = 2 then 8 else r) y) := anew_sells HK.out HE.out HM.out hA
  have hb6 : Below w5.heap.size w5 (W.sail w5 y a5) := sail_below w5 y a5
  have HU6 : Aside (SailUp w3.heap.size (W.sail w5 y a5) y a5) := hU5.below hb6
  have HB6 : Aside (Below w.heap.size w (W.sail w5 y a5)) := bvia HB4.out (bvia hb5 hb6)
  have HZ6 : Aside (RowIs (W.sail w5 y a5) (w.heap.size + 1 + 1) C.zs) := (HZ4.out.below hb5).below hb6
  have HR6 : Aside (SRow (W.sail w5 y a5) w5.heap.size y a5) := RowIs.new w5 _ _
  clear c0 c1 c2 c3 c4 c5 c6 c7 c8 c9 c10 c11 c12 z10' f10' HX4 HZ4 HI4 HY4 HN4 HC4 HH hA hU5 hb5 hb6 HB4
  by_cases hr2 : r = 2
  · have HR : Aside (P.Sells k x b 8 y) := by
      have := HA.out
      rw [if_pos hr2] at this
      exact this
    have hr2' : (r == 2) = true := by simpa using hr2
    clear hr2 HA
    go_wp2_with (refine wpList_stC rfl 32 _ _ (by rfl) (w.heap.size + 1 + 1) C.zs (C.sail y a5) Tryz.sizeSail (by rfl) (by rfl) HZ6.out rfl (sail_one _ _) ?_; intro w9 hr9 hg9)
    exact bodyPost_ret (res2 rfl hr9 _ rfl rfl Tryz.underlying32 rfl Tryz.sizeSail) rfl ⟨8, y, a5, rfl, HR.out, (HU6.out.up (Up.gr hg9 (by omega))).mono (by omega), below_gr HB6.out HB6.out.size hg9 (by omega)⟩
  · have HR : Aside (P.Sells k x b r y) := by
      have := HA.out
      rw [if_neg hr2] at this
      exact this
    have hr2' : (r == 2) = false := by simpa using hr2
    clear hr2 HA
    go_wp2_with (refine wpList_stC rfl 32 _ _ (by rfl) (w.heap.size + 1 + 1) C.zs (C.sail y a5) Tryz.sizeSail (by rfl) (by rfl) HZ6.out rfl (sail_one _ _) ?_; intro w9 hr9 hg9)
    exact bodyPost_ret (res2 rfl hr9 _ rfl rfl Tryz.underlying32 rfl Tryz.sizeSail) rfl ⟨r, y, a5, rfl, HR.out, (HU6.out.up (Up.gr hg9 (by omega))).mono (by omega), below_gr HB6.out HB6.out.size hg9 (by omega)⟩

end Go.Proofs.YtlamhfbdeinkkaeGreat.St
