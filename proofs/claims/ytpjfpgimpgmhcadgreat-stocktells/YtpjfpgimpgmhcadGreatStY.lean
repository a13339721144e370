/- The walk of StockTells, over the reference's WithBooking. -/
import Derived.Test.YtpjfpgimpgmhcadGreatStV
import Derived.Test.YtpjfpgimpgmhcadGreatSpC
import Derived.Test.YtpjfpgimpgmhcadGreatStE
namespace Go.Proofs.YtpjfpgimpgmhcadGreat.St
open Go.RowKit Bk
set_option linter.unusedSimpArgs false
set_option linter.unusedVariables false
set_option maxRecDepth 10000

theorem spNil (w : World) : Sp.SpAt w none 0 [] := ⟨by simp, by simp [maxLen], fun _ => rfl, fun h => by simp at h⟩
theorem aI {w w' : World} {ao : Option Addr} {cap : Nat} {l : List Int} (h : Aside (IntsAt w ao cap l)) (hb : Below w.heap.size w w') : Aside (IntsAt w' ao cap l) := SlAt.below RInt.mono h.out hb
theorem aE {w w' : World} {ao : Option Addr} {cap : Nat} {l : List (Int × Int)} (h : Aside (Ma.EdgesAt w ao cap l)) (hb : Below w.heap.size w w') : Aside (Ma.EdgesAt w' ao cap l) := SlAt.below Ma.REdge.mono h.out hb
theorem aS {w w' : World} {ao : Option Addr} {cap : Nat} {l : List (Int × Int)} (h : Aside (Sp.SpAt w ao cap l)) (hb : Below w.heap.size w w') : Aside (Sp.SpAt w' ao cap l) := h.out.below hb
theorem aX {w w' : World} {g : Nat} {x : Sail} {a : SailA} (h : Aside (SBox w g x a)) (hb : Below w.heap.size w w') : Aside (SBox w' g x a) := h.out.below hb
theorem aB {w w' : World} {g : Nat} {x : Bkg} {fo : Option Addr} {fc : Nat} (h : Aside (BBox w g x fo fc)) (hb : Below w.heap.size w w') : Aside (BBox w' g x fo fc) := h.out.below hb
theorem aW {w0 w w' : World} (h : Aside (Below w0.heap.size w0 w)) (hb : Below w.heap.size w w') : Aside (Below w0.heap.size w0 w') := bvia h.out hb
/-- What the reference's WithBooking answers. -/
def WithOk : Prop := ∀ (x : Sail) (a : SailA) (b : Bkg) (fo : Option Addr) (fc : Nat) (w : World), SailAt w x a → Fo.EntsAt w fo fc b.fol → P.SailE x 0 → x.bks.any (fun y => decide (y.id = b.id)) = false →
  Calls Tryz.prog 18 #[V.sail x a, V.bk b fo fc] w fun e w' => ∃ a', e = .returned (V.sail (P.withB x b) a') ∧ SailAt w' (P.withB x b) a' ∧ Below w.heap.size w w'
theorem bat_any {id : Int} {l : List Bkg} : (l.any (fun y => decide (y.id = id)) = true → 0 ≤ P.bat id 0 l) ∧ (l.any (fun y => decide (y.id = id)) = false → P.bat id 0 l = -1) := by
  refine ⟨fun h => ?_, fun h => bat_neg.2 (fun b hb e => ?_)⟩
  · rcases bat_range (id := id) (i := 0) (l := l) with h1 | h1
    · obtain ⟨b, hb, e⟩ := List.any_eq_true.1 h
      rw [decide_eq_true_iff] at e
      exact absurd e (bat_neg.1 h1 b hb)
    · omega
  · have := List.any_eq_false.1 h b hb
    simp at this
    exact this e

theorem sail_total (x : Sail) : ∃ r, P.SailE x r := by
  by_cases h : P.pre x = 0
  · cases ht : P.twice x
    · cases hm : P.many x
      · obtain ⟨c, hc⟩ := max_ex (P.pids x.bks).length (fun m hm => isM_le pedg_left hm)
        exact ⟨_, .inr ⟨h, _, .inr (.inr ⟨ht, hm, c, hc, rfl⟩), rfl⟩⟩
      · exact ⟨_, .inr ⟨h, _, .inr (.inl ⟨ht, hm, rfl⟩), rfl⟩⟩
    · exact ⟨_, .inr ⟨h, _, .inl ⟨ht, rfl⟩, rfl⟩⟩
  · exact ⟨_, .inl ⟨h, rfl⟩⟩
set_option maxHeartbeats 16000000 in
theorem stockTells_bad (hWB : WithOk) (x : Sail) (a : SailA) (c : Int) (b : Bkg) (fo : Option Addr) (fc : Nat) (w : World) (hs : SailAt w x a) (hf : Fo.EntsAt w fo fc b.fol) (r : Int) (HR : Aside (P.SailE x r)) (hnz : ¬ r = 0) :
    Calls Tryz.prog 4 #[V.sail x a, .int .i64 c, V.bk b fo fc] w fun e w' => e = .returned (.bool true) ∧ Below w.heap.size w w' := by
  have hcle := hs.ship.cabs.le
  have hcmx := hs.ship.cabs.max
  unfold maxLen at hcmx
  have HW : Aside (Below w.heap.size w (W.bk (W.sail w x a) b fo fc)) := bvia (sail_below w x a) (bk_below _ b fo fc)
  have HX : Aside (SBox (W.bk (W.sail w x a) b fo fc) w.heap.size x a) := (SBox.new w x a).below (bk_below _ b fo fc)
  have HB : Aside (BBox (W.bk (W.sail w x a) b fo fc) (w.heap.size + 1) b fo fc) := by
    have := BBox.new (W.sail w x a) b fo fc
    rw [World.size_alloc] at this
    exact this
  have HWB : Aside WithOk := hWB
  clear hWB
  obtain ⟨d0, d1, d2, d3, d4, d5, d6, d7, d8, d9, d10, d11, d12⟩ := HX.out
  obtain ⟨z0, z1, z2, z3, z4, z5, z6, z7, z8, z9, z10⟩ := HB.out
  go_enter Tryz.func4, Tryz.ntmps4
  clear d0 d1 d2 d3 d4 d5 d6 d7 d8 d9 d10 d11 d12 z0 z1 z2 z3 z4 z5 z6 z7 z8 z9 z10
  obtain ⟨d0, d1, d2, d3, d4, d5, d6, d7, d8, d9, d10, d11, d12⟩ := HX.out
  obtain ⟨z0, z1, z2, z3, z4, z5, z6, z7, z8, z9, z10⟩ := HB.out
  go_wp2_with fail
  refine (stockPromises_any x a _ (hs.below HW.out)).mono ?_
  rintro e w1 ⟨r, v1, v2, rfl, hr1, own1, own2, hb1⟩
  replace HW := aW HW hb1
  replace HX := aX HX hb1
  replace HB := aB HB hb1
  clear d0 d1 d2 d3 d4 d5 d6 d7 d8 d9 d10 d11 d12 z0 z1 z2 z3 z4 z5 z6 z7 z8 z9 z10
  obtain rfl := SailE.one hr1 HR.out
  obtain ⟨ao1, cap1, rfl, l1⟩ := OwnJ.at own1
  obtain ⟨ao2, cap2, rfl, l2⟩ := OwnC.at cellsG_len own2
  have L1 : Aside (IntsAt w1 ao1 cap1 (P.ok r (P.pids x.bks))) := l1
  have L2 : Aside (Ma.EdgesAt w1 ao2 cap2 (P.ok r (P.pedg x.s x.bks 0 x.bks))) := l2
  clear own1 own2 l1 l2 hr1 hb1
  obtain ⟨d0, d1, d2, d3, d4, d5, d6, d7, d8, d9, d10, d11, d12⟩ := HX.out
  obtain ⟨z0, z1, z2, z3, z4, z5, z6, z7, z8, z9, z10⟩ := HB.out
  go_wp2_with fail
  refine (stockFree_any x a c _ (hs.below HW.out)).mono ?_
  rintro e w2 ⟨r2, v3, rfl, hr2, own3, hb2⟩
  replace HW := aW HW hb2
  replace HX := aX HX hb2
  replace HB := aB HB hb2
  replace L1 := aI L1 hb2
  replace L2 := aE L2 hb2
  clear d0 d1 d2 d3 d4 d5 d6 d7 d8 d9 d10 d11 d12 z0 z1 z2 z3 z4 z5 z6 z7 z8 z9 z10
  obtain rfl := SailE.one hr2 HR.out
  obtain ⟨ao3, cap3, rfl, l3⟩ := Sp.Own.at own3
  have L3 : Aside (Sp.SpAt w2 ao3 cap3 (P.freeL x r2 c)) := l3
  clear own3 l3 hr2 hb2
  obtain ⟨d0, d1, d2, d3, d4, d5, d6, d7, d8, d9, d10, d11, d12⟩ := HX.out
  obtain ⟨z0, z1, z2, z3, z4, z5, z6, z7, z8, z9, z10⟩ := HB.out
  go_wp2_with fail
  refine (stockCould_any x a b fo fc _ (hs.below HW.out) (SlAt.below Fo.REnt.mono hf HW.out)).mono ?_
  rintro e w3 ⟨r3, ok, rfl, hr3, hno, hyes, hb3⟩
  replace HW := aW HW hb3
  replace HX := aX HX hb3
  replace HB := aB HB hb3
  replace L1 := aI L1 hb3
  replace L2 := aE L2 hb3
  replace L3 := aS L3 hb3
  clear d0 d1 d2 d3 d4 d5 d6 d7 d8 d9 d10 d11 d12 z0 z1 z2 z3 z4 z5 z6 z7 z8 z9 z10
  obtain rfl := SailE.one hr3 HR.out
  have HNO : Aside ((¬ P.couldE x b r3 = 0 → ok = false) ∧ (P.couldE x b r3 = 0 → (ok = true ↔ P.SailE (P.withB x b) 0))) := ⟨hno, hyes⟩
  clear hr3 hb3 hno hyes
  obtain ⟨d0, d1, d2, d3, d4, d5, d6, d7, d8, d9, d10, d11, d12⟩ := HX.out
  obtain ⟨z0, z1, z2, z3, z4, z5, z6, z7, z8, z9, z10⟩ := HB.out
  go_wp2_with fail
  refine (refSail_any x a _ (hs.below HW.out)).mono ?_
  rintro e w4 ⟨r4, rfl, hr4, hb4⟩
  replace HW := aW HW hb4
  replace HX := aX HX hb4
  replace HB := aB HB hb4
  replace L1 := aI L1 hb4
  replace L2 := aE L2 hb4
  replace L3 := aS L3 hb4
  clear d0 d1 d2 d3 d4 d5 d6 d7 d8 d9 d10 d11 d12 z0 z1 z2 z3 z4 z5 z6 z7 z8 z9 z10
  obtain rfl := SailE.one hr4 HR.out
  clear hr4 hb4
  · have hz : (r4 != 0) = true := by simpa using hnz
    have e1 : P.couldE x b r4 = r4 := by rw [P.couldE, if_neg hnz]
    have e2 : ok = false := HNO.out.1 (by rw [e1]; exact hnz)
    have e3 : P.freeE x r4 c = r4 := by rw [P.freeE, if_neg hnz]
    have e4 : P.freeL x r4 c = [] := by rw [P.freeL, e3, if_neg hnz]
    have e5 : P.ok r4 (P.pids x.bks) = [] := by rw [P.ok, if_neg hnz]
    have e6 : P.ok r4 (P.pedg x.s x.bks 0 x.bks) = [] := by rw [P.ok, if_neg hnz]
    have hz2 : (r4 == 0) = false := by simpa using hnz
    rw [e5] at L1 ⊢
    rw [e6] at L2 ⊢
    rw [e4] at L3 ⊢
    rw [e1, e2, e3]
    clear hnz e1 e2 e3 e4 e5 e6 HNO
    go_wp2_with fail
    refine (stockBegun_any _).mono ?_
    rintro e wb ⟨rfl, hbb⟩
    replace HW := aW HW hbb
    replace HX := aX HX hbb
    replace HB := aB HB hbb
    replace L1 := aI L1 hbb
    replace L2 := aE L2 hbb
    replace L3 := aS L3 hbb
    clear hbb
    obtain ⟨d0, d1, d2, d3, d4, d5, d6, d7, d8, d9, d10, d11, d12⟩ := HX.out
    obtain ⟨z0, z1, z2, z3, z4, z5, z6, z7, z8, z9, z10⟩ := HB.out
    go_wp2_with fail
    refine (stockCheck_any x a _ (hs.below HW.out)).mono ?_
    rintro e wc ⟨rc, rfl, hrc, hbc⟩
    replace HW := aW HW hbc
    replace HX := aX HX hbc
    replace HB := aB HB hbc
    replace L1 := aI L1 hbc
    replace L2 := aE L2 hbc
    replace L3 := aS L3 hbc
    clear d0 d1 d2 d3 d4 d5 d6 d7 d8 d9 d10 d11 d12 z0 z1 z2 z3 z4 z5 z6 z7 z8 z9 z10
    obtain hrr := SailE.one hrc HR.out
    rw [hrr]
    clear hrc hbc hrr
    go_wp2_with fail
    refine (Ma.intsAre_any _ _ _ _ ([] : List Int) ([] : List Int) r4 r4 _ L1.out (SlAt.nilOf _)).mono ?_
    rintro e wd ⟨rfl, hbd⟩
    replace HW := aW HW hbd
    replace HX := aX HX hbd
    replace HB := aB HB hbd
    replace L1 := aI L1 hbd
    replace L2 := aE L2 hbd
    replace L3 := aS L3 hbd
    rw [show (decide ((r4 : Int) = r4) && decide (([] : List Int) = Ma.P.wantI r4 ([] : List Int))) = true by simp [Ma.P.wantI]]
    go_wp2_with fail
    refine (sameEdges_any _ _ _ _ ([] : List (Int × Int)) ([] : List (Int × Int)) _ L2.out (SlAt.nilOf _)).mono ?_
    rintro e we ⟨rfl, hbe⟩
    replace HW := aW HW hbe
    replace HX := aX HX hbe
    replace HB := aB HB hbe
    replace L1 := aI L1 hbe
    replace L2 := aE L2 hbe
    replace L3 := aS L3 hbe
    rw [show decide (([] : List (Int × Int)) = ([] : List (Int × Int))) = true by simp]
    go_wp2_with fail
    refine (Sp.spansAre_any _ _ _ _ ([] : List (Int × Int)) ([] : List (Int × Int)) r4 _ L3.out (spNil _) (by simp)).mono ?_
    rintro e wf ⟨rfl, hbf⟩
    replace HW := aW HW hbf
    go_wp2
    go_ret
    exact ⟨rfl, HW.out⟩

set_option maxHeartbeats 16000000 in
theorem stockTells_neg (hWB : WithOk) (x : Sail) (a : SailA) (c : Int) (b : Bkg) (fo : Option Addr) (fc : Nat) (w : World) (hs : SailAt w x a) (hf : Fo.EntsAt w fo fc b.fol) (HR : Aside (P.SailE x 0)) (hc1 : c < 0) :
    Calls Tryz.prog 4 #[V.sail x a, .int .i64 c, V.bk b fo fc] w fun e w' => e = .returned (.bool true) ∧ Below w.heap.size w w' := by
  have hcle := hs.ship.cabs.le
  have hcmx := hs.ship.cabs.max
  unfold maxLen at hcmx
  have HW : Aside (Below w.heap.size w (W.bk (W.sail w x a) b fo fc)) := bvia (sail_below w x a) (bk_below _ b fo fc)
  have HX : Aside (SBox (W.bk (W.sail w x a) b fo fc) w.heap.size x a) := (SBox.new w x a).below (bk_below _ b fo fc)
  have HB : Aside (BBox (W.bk (W.sail w x a) b fo fc) (w.heap.size + 1) b fo fc) := by
    have := BBox.new (W.sail w x a) b fo fc
    rw [World.size_alloc] at this
    exact this
  have HWB : Aside WithOk := hWB
  clear hWB
  obtain ⟨d0, d1, d2, d3, d4, d5, d6, d7, d8, d9, d10, d11, d12⟩ := HX.out
  obtain ⟨z0, z1, z2, z3, z4, z5, z6, z7, z8, z9, z10⟩ := HB.out
  go_enter Tryz.func4, Tryz.ntmps4
  clear d0 d1 d2 d3 d4 d5 d6 d7 d8 d9 d10 d11 d12 z0 z1 z2 z3 z4 z5 z6 z7 z8 z9 z10
  obtain ⟨d0, d1, d2, d3, d4, d5, d6, d7, d8, d9, d10, d11, d12⟩ := HX.out
  obtain ⟨z0, z1, z2, z3, z4, z5, z6, z7, z8, z9, z10⟩ := HB.out
  go_wp2_with fail
  refine (stockPromises_any x a _ (hs.below HW.out)).mono ?_
  rintro e w1 ⟨r, v1, v2, rfl, hr1, own1, own2, hb1⟩
  replace HW := aW HW hb1
  replace HX := aX HX hb1
  replace HB := aB HB hb1
  clear d0 d1 d2 d3 d4 d5 d6 d7 d8 d9 d10 d11 d12 z0 z1 z2 z3 z4 z5 z6 z7 z8 z9 z10
  obtain rfl := SailE.one hr1 HR.out
  obtain ⟨ao1, cap1, rfl, l1⟩ := OwnJ.at own1
  obtain ⟨ao2, cap2, rfl, l2⟩ := OwnC.at cellsG_len own2
  have L1 : Aside (IntsAt w1 ao1 cap1 (P.ok 0 (P.pids x.bks))) := l1
  have L2 : Aside (Ma.EdgesAt w1 ao2 cap2 (P.ok 0 (P.pedg x.s x.bks 0 x.bks))) := l2
  clear own1 own2 l1 l2 hr1 hb1
  obtain ⟨d0, d1, d2, d3, d4, d5, d6, d7, d8, d9, d10, d11, d12⟩ := HX.out
  obtain ⟨z0, z1, z2, z3, z4, z5, z6, z7, z8, z9, z10⟩ := HB.out
  go_wp2_with fail
  refine (stockFree_any x a c _ (hs.below HW.out)).mono ?_
  rintro e w2 ⟨r2, v3, rfl, hr2, own3, hb2⟩
  replace HW := aW HW hb2
  replace HX := aX HX hb2
  replace HB := aB HB hb2
  replace L1 := aI L1 hb2
  replace L2 := aE L2 hb2
  clear d0 d1 d2 d3 d4 d5 d6 d7 d8 d9 d10 d11 d12 z0 z1 z2 z3 z4 z5 z6 z7 z8 z9 z10
  obtain rfl := SailE.one hr2 HR.out
  obtain ⟨ao3, cap3, rfl, l3⟩ := Sp.Own.at own3
  have L3 : Aside (Sp.SpAt w2 ao3 cap3 (P.freeL x 0 c)) := l3
  clear own3 l3 hr2 hb2
  obtain ⟨d0, d1, d2, d3, d4, d5, d6, d7, d8, d9, d10, d11, d12⟩ := HX.out
  obtain ⟨z0, z1, z2, z3, z4, z5, z6, z7, z8, z9, z10⟩ := HB.out
  go_wp2_with fail
  refine (stockCould_any x a b fo fc _ (hs.below HW.out) (SlAt.below Fo.REnt.mono hf HW.out)).mono ?_
  rintro e w3 ⟨r3, ok, rfl, hr3, hno, hyes, hb3⟩
  replace HW := aW HW hb3
  replace HX := aX HX hb3
  replace HB := aB HB hb3
  replace L1 := aI L1 hb3
  replace L2 := aE L2 hb3
  replace L3 := aS L3 hb3
  clear d0 d1 d2 d3 d4 d5 d6 d7 d8 d9 d10 d11 d12 z0 z1 z2 z3 z4 z5 z6 z7 z8 z9 z10
  obtain rfl := SailE.one hr3 HR.out
  have HNO : Aside ((¬ P.couldE x b 0 = 0 → ok = false) ∧ (P.couldE x b 0 = 0 → (ok = true ↔ P.SailE (P.withB x b) 0))) := ⟨hno, hyes⟩
  clear hr3 hb3 hno hyes
  obtain ⟨d0, d1, d2, d3, d4, d5, d6, d7, d8, d9, d10, d11, d12⟩ := HX.out
  obtain ⟨z0, z1, z2, z3, z4, z5, z6, z7, z8, z9, z10⟩ := HB.out
  go_wp2_with fail
  refine (refSail_any x a _ (hs.below HW.out)).mono ?_
  rintro e w4 ⟨r4, rfl, hr4, hb4⟩
  replace HW := aW HW hb4
  replace HX := aX HX hb4
  replace HB := aB HB hb4
  replace L1 := aI L1 hb4
  replace L2 := aE L2 hb4
  replace L3 := aS L3 hb4
  clear d0 d1 d2 d3 d4 d5 d6 d7 d8 d9 d10 d11 d12 z0 z1 z2 z3 z4 z5 z6 z7 z8 z9 z10
  obtain rfl := SailE.one hr4 HR.out
  clear hr4 hb4
  obtain ⟨_, _, h0, hbk, h16, ht, _⟩ := sail_ok HR.out
  have H0 : Aside (P.shp x.s = 0) := h0
  have HBK : Aside (∀ b ∈ x.bks, P.bkE x.s b = 0) := hbk
  have HSL : Aside (P.sails x.s.legs = true) := by have := shp_size h0; show _ = _; simp [P.sails]; omega
  have HCH : Aside (∀ b ∈ x.bks, P.chk b.frm b.to x.s.legs = 0) := fun b hb => (bk_ok (hbk b hb)).1
  have HCL : Aside (0 ≤ c ∧ c < x.s.bs.length → Sp.P.calendar (P.addsL x.s.legs [] (P.mine c x.bks)) x.s.legs = 0) := fun hcc => by
    obtain ⟨n, rfl⟩ : ∃ n : Nat, c = n := ⟨c.toNat, by omega⟩
    have hB : P.addsB x.s.legs (P.mine n x.bks) = true := by
      apply Classical.byContradiction
      intro h
      have := twice_hit (x := x) (c := n) (by omega) (by simpa using h)
      rw [ht] at this
      cases this
    exact adds_cal (nil_cal HSL.out) (by simpa [P.addsB] using hB)
  have e5 : P.ok 0 (P.pids x.bks) = P.pids x.bks := by rw [P.ok, if_pos rfl]
  have e6 : P.ok 0 (P.pedg x.s x.bks 0 x.bks) = P.pedg x.s x.bks 0 x.bks := by rw [P.ok, if_pos rfl]
  rw [e5] at L1 ⊢
  rw [e6] at L2 ⊢
  clear h0 hbk ht e5 e6
  cases hk : (P.bkE x.s b != 0)
  rotate_left
  · have e3 : P.freeE x 0 c = 3 := by rw [P.freeE, if_pos rfl, if_neg (by simp [P.cabB, P.btw]; omega)]
    have e4 : P.freeL x 0 c = [] := by rw [P.freeL, e3]; rfl
    have e1 : P.couldE x b 0 = P.bkE x.s b := by rw [P.couldE, if_pos rfl, if_neg (by simpa using hk)]
    have e2 : ok = false := HNO.out.1 (by rw [e1]; simpa using hk)
    have hk2 : (P.bkE x.s b == 0) = false := by simpa using hk
    rw [e1, e2]
    rw [e4] at L3 ⊢
    rw [e3]
    clear e1 e3 e4 HNO e2
    obtain ⟨d0, d1, d2, d3, d4, d5, d6, d7, d8, d9, d10, d11, d12⟩ := HX.out
    obtain ⟨z0, z1, z2, z3, z4, z5, z6, z7, z8, z9, z10⟩ := HB.out
    go_wp2_with fail
    refine (refBk_any x.s a.v b fo fc _ (hs.below HW.out).ship (SlAt.below Fo.REnt.mono hf HW.out) H0.out).mono ?_
    rintro e w5 ⟨rfl, hb5⟩
    replace HW := aW HW hb5
    replace HX := aX HX hb5
    replace HB := aB HB hb5
    replace L1 := aI L1 hb5
    replace L2 := aE L2 hb5
    replace L3 := aS L3 hb5
    clear d0 d1 d2 d3 d4 d5 d6 d7 d8 d9 d10 d11 d12 z0 z1 z2 z3 z4 z5 z6 z7 z8 z9 z10
    clear hb5
    obtain ⟨d0, d1, d2, d3, d4, d5, d6, d7, d8, d9, d10, d11, d12⟩ := HX.out
    obtain ⟨z0, z1, z2, z3, z4, z5, z6, z7, z8, z9, z10⟩ := HB.out
    go_wp2_with fail
    refine (promisesOf_any x a _ (hs.below HW.out) H0.out HBK.out h16).mono ?_
    rintro e w7 ⟨v5, v6, rfl, own5, own6, hb7⟩
    replace HW := aW HW hb7
    replace HX := aX HX hb7
    replace HB := aB HB hb7
    replace L1 := aI L1 hb7
    replace L2 := aE L2 hb7
    replace L3 := aS L3 hb7
    clear d0 d1 d2 d3 d4 d5 d6 d7 d8 d9 d10 d11 d12 z0 z1 z2 z3 z4 z5 z6 z7 z8 z9 z10
    obtain ⟨ao5, cap5, rfl, l5⟩ := OwnJ.at own5
    obtain ⟨ao6, cap6, rfl, l6⟩ := OwnC.at cellsG_len own6
    have L5 : Aside (IntsAt w7 ao5 cap5 (P.pids x.bks)) := l5
    have L6 : Aside (Ma.EdgesAt w7 ao6 cap6 (P.pedg x.s x.bks 0 x.bks)) := l6
    clear own5 own6 l5 l6 hb7
    generalize P.pids x.bks = I0 at L1 L5 ⊢
    generalize P.pedg x.s x.bks 0 x.bks = E0 at L2 L6 ⊢
    go_wp2_with fail
    refine (stockBegun_any _).mono ?_
    rintro e wb ⟨rfl, hbb⟩
    replace HW := aW HW hbb
    replace HX := aX HX hbb
    replace HB := aB HB hbb
    replace L1 := aI L1 hbb
    replace L2 := aE L2 hbb
    replace L3 := aS L3 hbb
    replace L5 := aI L5 hbb
    replace L6 := aE L6 hbb
    clear hbb
    obtain ⟨d0, d1, d2, d3, d4, d5, d6, d7, d8, d9, d10, d11, d12⟩ := HX.out
    obtain ⟨z0, z1, z2, z3, z4, z5, z6, z7, z8, z9, z10⟩ := HB.out
    go_wp2_with fail
    refine (stockCheck_any x a _ (hs.below HW.out)).mono ?_
    rintro e wc ⟨rc, rfl, hrc, hbc⟩
    replace HW := aW HW hbc
    replace HX := aX HX hbc
    replace HB := aB HB hbc
    replace L1 := aI L1 hbc
    replace L2 := aE L2 hbc
    replace L3 := aS L3 hbc
    replace L5 := aI L5 hbc
    replace L6 := aE L6 hbc
    clear d0 d1 d2 d3 d4 d5 d6 d7 d8 d9 d10 d11 d12 z0 z1 z2 z3 z4 z5 z6 z7 z8 z9 z10
    obtain hrr := SailE.one hrc HR.out
    rw [hrr]
    clear hrc hbc hrr
    go_wp2_with fail
    refine (Ma.intsAre_any _ _ _ _ I0 I0 0 0 _ L1.out L5.out).mono ?_
    rintro e wd ⟨rfl, hbd⟩
    replace HW := aW HW hbd
    replace HX := aX HX hbd
    replace HB := aB HB hbd
    replace L1 := aI L1 hbd
    replace L2 := aE L2 hbd
    replace L3 := aS L3 hbd
    replace L5 := aI L5 hbd
    replace L6 := aE L6 hbd
    rw [show (decide ((0 : Int) = 0) && decide (I0 = Ma.P.wantI 0 I0)) = true by simp [Ma.P.wantI]]
    go_wp2_with fail
    refine (sameEdges_any _ _ _ _ E0 E0 _ L2.out L6.out).mono ?_
    rintro e we ⟨rfl, hbe⟩
    replace HW := aW HW hbe
    replace HX := aX HX hbe
    replace HB := aB HB hbe
    replace L1 := aI L1 hbe
    replace L2 := aE L2 hbe
    replace L3 := aS L3 hbe
    replace L5 := aI L5 hbe
    replace L6 := aE L6 hbe
    rw [show decide (E0 = E0) = true by simp]
    go_wp2_with fail
    refine (Sp.spansAre_any _ _ _ _ ([] : List (Int × Int)) ([] : List (Int × Int)) 3 _ L3.out (spNil _) (by simp)).mono ?_
    rintro e wf ⟨rfl, hbf⟩
    replace HW := aW HW hbf
    go_wp2
    go_ret
    exact ⟨rfl, HW.out⟩
  have HK0 : Aside (P.bkE x.s b = 0) := by show _ = _; simpa using hk
  clear hk
  cases hid : x.bks.any (fun y => decide (y.id = b.id))
  · have e3 : P.freeE x 0 c = 3 := by rw [P.freeE, if_pos rfl, if_neg (by simp [P.cabB, P.btw]; omega)]
    have e4 : P.freeL x 0 c = [] := by rw [P.freeL, e3]; rfl
    have hbt : P.bat b.id 0 x.bks = -1 := bat_any.2 hid
    have HBT : Aside (P.bat b.id 0 x.bks = -1) := hbt
    have HID : Aside (x.bks.any (fun y => decide (y.id = b.id)) = false) := hid
    have e1 : P.couldE x b 0 = 0 := by rw [P.couldE, if_pos rfl, if_pos HK0.out, if_neg (by simp [hid])]
    have HOK : Aside (ok = true ↔ P.SailE (P.withB x b) 0) := HNO.out.2 e1
    rw [e1]
    clear hid hbt
    rw [e4] at L3 ⊢
    rw [e3]
    clear e1 e3 e4 HNO
    obtain ⟨d0, d1, d2, d3, d4, d5, d6, d7, d8, d9, d10, d11, d12⟩ := HX.out
    obtain ⟨z0, z1, z2, z3, z4, z5, z6, z7, z8, z9, z10⟩ := HB.out
    go_wp2_with fail
    refine (refBk_any x.s a.v b fo fc _ (hs.below HW.out).ship (SlAt.below Fo.REnt.mono hf HW.out) H0.out).mono ?_
    rintro e w5 ⟨rfl, hb5⟩
    replace HW := aW HW hb5
    replace HX := aX HX hb5
    replace HB := aB HB hb5
    replace L1 := aI L1 hb5
    replace L2 := aE L2 hb5
    replace L3 := aS L3 hb5
    clear d0 d1 d2 d3 d4 d5 d6 d7 d8 d9 d10 d11 d12 z0 z1 z2 z3 z4 z5 z6 z7 z8 z9 z10
    clear hb5
    rw [HK0.out]
    obtain ⟨d0, d1, d2, d3, d4, d5, d6, d7, d8, d9, d10, d11, d12⟩ := HX.out
    obtain ⟨z0, z1, z2, z3, z4, z5, z6, z7, z8, z9, z10⟩ := HB.out
    go_wp2_with fail
    refine (bookingAt_any x a b.id _ (hs.below HW.out)).mono ?_
    rintro e w6 ⟨rfl, hb6⟩
    replace HW := aW HW hb6
    replace HX := aX HX hb6
    replace HB := aB HB hb6
    replace L1 := aI L1 hb6
    replace L2 := aE L2 hb6
    replace L3 := aS L3 hb6
    clear d0 d1 d2 d3 d4 d5 d6 d7 d8 d9 d10 d11 d12 z0 z1 z2 z3 z4 z5 z6 z7 z8 z9 z10
    clear hb6
    rw [HBT.out]
    obtain ⟨d0, d1, d2, d3, d4, d5, d6, d7, d8, d9, d10, d11, d12⟩ := HX.out
    obtain ⟨z0, z1, z2, z3, z4, z5, z6, z7, z8, z9, z10⟩ := HB.out
    go_wp2_with fail
    refine (promisesOf_any x a _ (hs.below HW.out) H0.out HBK.out h16).mono ?_
    rintro e w7 ⟨v5, v6, rfl, own5, own6, hb7⟩
    replace HW := aW HW hb7
    replace HX := aX HX hb7
    replace HB := aB HB hb7
    replace L1 := aI L1 hb7
    replace L2 := aE L2 hb7
    replace L3 := aS L3 hb7
    clear d0 d1 d2 d3 d4 d5 d6 d7 d8 d9 d10 d11 d12 z0 z1 z2 z3 z4 z5 z6 z7 z8 z9 z10
    obtain ⟨ao5, cap5, rfl, l5⟩ := OwnJ.at own5
    obtain ⟨ao6, cap6, rfl, l6⟩ := OwnC.at cellsG_len own6
    have L5 : Aside (IntsAt w7 ao5 cap5 (P.pids x.bks)) := l5
    have L6 : Aside (Ma.EdgesAt w7 ao6 cap6 (P.pedg x.s x.bks 0 x.bks)) := l6
    clear own5 own6 l5 l6 hb7
    generalize P.pids x.bks = I0 at L1 L5 ⊢
    generalize P.pedg x.s x.bks 0 x.bks = E0 at L2 L6 ⊢
    obtain ⟨d0, d1, d2, d3, d4, d5, d6, d7, d8, d9, d10, d11, d12⟩ := HX.out
    obtain ⟨z0, z1, z2, z3, z4, z5, z6, z7, z8, z9, z10⟩ := HB.out
    go_wp2_with fail
    refine (HWB.out x a b fo fc _ (hs.below HW.out) (SlAt.below Fo.REnt.mono hf HW.out) HR.out HID.out).mono ?_
    rintro e wa ⟨a', rfl, s', hba⟩
    replace HW := aW HW hba
    replace HX := aX HX hba
    replace HB := aB HB hba
    replace L1 := aI L1 hba
    replace L2 := aE L2 hba
    replace L3 := aS L3 hba
    replace L5 := aI L5 hba
    replace L6 := aE L6 hba
    clear d0 d1 d2 d3 d4 d5 d6 d7 d8 d9 d10 d11 d12 z0 z1 z2 z3 z4 z5 z6 z7 z8 z9 z10
    go_wp2_with fail
    refine (refSail_any (P.withB x b) a' _ s').mono ?_
    rintro e wg ⟨rg, rfl, hrg, hbg⟩
    replace HW := aW HW hbg
    replace HX := aX HX hbg
    replace HB := aB HB hbg
    replace L1 := aI L1 hbg
    replace L2 := aE L2 hbg
    replace L3 := aS L3 hbg
    replace L5 := aI L5 hbg
    replace L6 := aE L6 hbg
    have hrk : (rg == 0) = ok := by
      rw [Bool.eq_iff_iff, HOK.out, beq_iff_eq]
      exact ⟨fun h => by rw [h] at hrg; exact hrg, fun h => SailE.one hrg h⟩
    clear hrg hbg s' hba HOK
    go_wp2_with fail
    refine (stockBegun_any _).mono ?_
    rintro e wb ⟨rfl, hbb⟩
    replace HW := aW HW hbb
    replace HX := aX HX hbb
    replace HB := aB HB hbb
    replace L1 := aI L1 hbb
    replace L2 := aE L2 hbb
    replace L3 := aS L3 hbb
    replace L5 := aI L5 hbb
    replace L6 := aE L6 hbb
    clear hbb
    obtain ⟨d0, d1, d2, d3, d4, d5, d6, d7, d8, d9, d10, d11, d12⟩ := HX.out
    obtain ⟨z0, z1, z2, z3, z4, z5, z6, z7, z8, z9, z10⟩ := HB.out
    go_wp2_with fail
    refine (stockCheck_any x a _ (hs.below HW.out)).mono ?_
    rintro e wc ⟨rc, rfl, hrc, hbc⟩
    replace HW := aW HW hbc
    replace HX := aX HX hbc
    replace HB := aB HB hbc
    replace L1 := aI L1 hbc
    replace L2 := aE L2 hbc
    replace L3 := aS L3 hbc
    replace L5 := aI L5 hbc
    replace L6 := aE L6 hbc
    clear d0 d1 d2 d3 d4 d5 d6 d7 d8 d9 d10 d11 d12 z0 z1 z2 z3 z4 z5 z6 z7 z8 z9 z10
    obtain hrr := SailE.one hrc HR.out
    rw [hrr]
    clear hrc hbc hrr
    go_wp2_with fail
    refine (Ma.intsAre_any _ _ _ _ I0 I0 0 0 _ L1.out L5.out).mono ?_
    rintro e wd ⟨rfl, hbd⟩
    replace HW := aW HW hbd
    replace HX := aX HX hbd
    replace HB := aB HB hbd
    replace L1 := aI L1 hbd
    replace L2 := aE L2 hbd
    replace L3 := aS L3 hbd
    replace L5 := aI L5 hbd
    replace L6 := aE L6 hbd
    rw [show (decide ((0 : Int) = 0) && decide (I0 = Ma.P.wantI 0 I0)) = true by simp [Ma.P.wantI]]
    go_wp2_with fail
    refine (sameEdges_any _ _ _ _ E0 E0 _ L2.out L6.out).mono ?_
    rintro e we ⟨rfl, hbe⟩
    replace HW := aW HW hbe
    replace HX := aX HX hbe
    replace HB := aB HB hbe
    replace L1 := aI L1 hbe
    replace L2 := aE L2 hbe
    replace L3 := aS L3 hbe
    replace L5 := aI L5 hbe
    replace L6 := aE L6 hbe
    rw [show decide (E0 = E0) = true by simp]
    go_wp2_with fail
    refine (Sp.spansAre_any _ _ _ _ ([] : List (Int × Int)) ([] : List (Int × Int)) 3 _ L3.out (spNil _) (by simp)).mono ?_
    rintro e wf ⟨rfl, hbf⟩
    replace HW := aW HW hbf
    cases ok
    all_goals
      go_wp2
      go_ret
      exact ⟨rfl, HW.out⟩
  · have e3 : P.freeE x 0 c = 3 := by rw [P.freeE, if_pos rfl, if_neg (by simp [P.cabB, P.btw]; omega)]
    have e4 : P.freeL x 0 c = [] := by rw [P.freeL, e3]; rfl
    have hbt : (0 : Int) ≤ P.bat b.id 0 x.bks := bat_any.1 hid
    have e1 : P.couldE x b 0 = 6 := by rw [P.couldE, if_pos rfl, if_pos HK0.out, if_pos hid]
    have e2 : ok = false := HNO.out.1 (by rw [e1]; decide)
    rw [e1, e2]
    clear hid
    rw [e4] at L3 ⊢
    rw [e3]
    clear e1 e3 e4 HNO e2
    obtain ⟨d0, d1, d2, d3, d4, d5, d6, d7, d8, d9, d10, d11, d12⟩ := HX.out
    obtain ⟨z0, z1, z2, z3, z4, z5, z6, z7, z8, z9, z10⟩ := HB.out
    go_wp2_with fail
    refine (refBk_any x.s a.v b fo fc _ (hs.below HW.out).ship (SlAt.below Fo.REnt.mono hf HW.out) H0.out).mono ?_
    rintro e w5 ⟨rfl, hb5⟩
    replace HW := aW HW hb5
    replace HX := aX HX hb5
    replace HB := aB HB hb5
    replace L1 := aI L1 hb5
    replace L2 := aE L2 hb5
    replace L3 := aS L3 hb5
    clear d0 d1 d2 d3 d4 d5 d6 d7 d8 d9 d10 d11 d12 z0 z1 z2 z3 z4 z5 z6 z7 z8 z9 z10
    clear hb5
    rw [HK0.out]
    obtain ⟨d0, d1, d2, d3, d4, d5, d6, d7, d8, d9, d10, d11, d12⟩ := HX.out
    obtain ⟨z0, z1, z2, z3, z4, z5, z6, z7, z8, z9, z10⟩ := HB.out
    go_wp2_with fail
    refine (bookingAt_any x a b.id _ (hs.below HW.out)).mono ?_
    rintro e w6 ⟨rfl, hb6⟩
    replace HW := aW HW hb6
    replace HX := aX HX hb6
    replace HB := aB HB hb6
    replace L1 := aI L1 hb6
    replace L2 := aE L2 hb6
    replace L3 := aS L3 hb6
    clear d0 d1 d2 d3 d4 d5 d6 d7 d8 d9 d10 d11 d12 z0 z1 z2 z3 z4 z5 z6 z7 z8 z9 z10
    clear hb6
    obtain ⟨d0, d1, d2, d3, d4, d5, d6, d7, d8, d9, d10, d11, d12⟩ := HX.out
    obtain ⟨z0, z1, z2, z3, z4, z5, z6, z7, z8, z9, z10⟩ := HB.out
    go_wp2_with fail
    refine (promisesOf_any x a _ (hs.below HW.out) H0.out HBK.out h16).mono ?_
    rintro e w7 ⟨v5, v6, rfl, own5, own6, hb7⟩
    replace HW := aW HW hb7
    replace HX := aX HX hb7
    replace HB := aB HB hb7
    replace L1 := aI L1 hb7
    replace L2 := aE L2 hb7
    replace L3 := aS L3 hb7
    clear d0 d1 d2 d3 d4 d5 d6 d7 d8 d9 d10 d11 d12 z0 z1 z2 z3 z4 z5 z6 z7 z8 z9 z10
    obtain ⟨ao5, cap5, rfl, l5⟩ := OwnJ.at own5
    obtain ⟨ao6, cap6, rfl, l6⟩ := OwnC.at cellsG_len own6
    have L5 : Aside (IntsAt w7 ao5 cap5 (P.pids x.bks)) := l5
    have L6 : Aside (Ma.EdgesAt w7 ao6 cap6 (P.pedg x.s x.bks 0 x.bks)) := l6
    clear own5 own6 l5 l6 hb7
    generalize P.pids x.bks = I0 at L1 L5 ⊢
    generalize P.pedg x.s x.bks 0 x.bks = E0 at L2 L6 ⊢
    go_wp2_with fail
    refine (stockBegun_any _).mono ?_
    rintro e wb ⟨rfl, hbb⟩
    replace HW := aW HW hbb
    replace HX := aX HX hbb
    replace HB := aB HB hbb
    replace L1 := aI L1 hbb
    replace L2 := aE L2 hbb
    replace L3 := aS L3 hbb
    replace L5 := aI L5 hbb
    replace L6 := aE L6 hbb
    clear hbb
    obtain ⟨d0, d1, d2, d3, d4, d5, d6, d7, d8, d9, d10, d11, d12⟩ := HX.out
    obtain ⟨z0, z1, z2, z3, z4, z5, z6, z7, z8, z9, z10⟩ := HB.out
    go_wp2_with fail
    refine (stockCheck_any x a _ (hs.below HW.out)).mono ?_
    rintro e wc ⟨rc, rfl, hrc, hbc⟩
    replace HW := aW HW hbc
    replace HX := aX HX hbc
    replace HB := aB HB hbc
    replace L1 := aI L1 hbc
    replace L2 := aE L2 hbc
    replace L3 := aS L3 hbc
    replace L5 := aI L5 hbc
    replace L6 := aE L6 hbc
    clear d0 d1 d2 d3 d4 d5 d6 d7 d8 d9 d10 d11 d12 z0 z1 z2 z3 z4 z5 z6 z7 z8 z9 z10
    obtain hrr := SailE.one hrc HR.out
    rw [hrr]
    clear hrc hbc hrr
    go_wp2_with fail
    refine (Ma.intsAre_any _ _ _ _ I0 I0 0 0 _ L1.out L5.out).mono ?_
    rintro e wd ⟨rfl, hbd⟩
    replace HW := aW HW hbd
    replace HX := aX HX hbd
    replace HB := aB HB hbd
    replace L1 := aI L1 hbd
    replace L2 := aE L2 hbd
    replace L3 := aS L3 hbd
    replace L5 := aI L5 hbd
    replace L6 := aE L6 hbd
    rw [show (decide ((0 : Int) = 0) && decide (I0 = Ma.P.wantI 0 I0)) = true by simp [Ma.P.wantI]]
    go_wp2_with fail
    refine (sameEdges_any _ _ _ _ E0 E0 _ L2.out L6.out).mono ?_
    rintro e we ⟨rfl, hbe⟩
    replace HW := aW HW hbe
    replace HX := aX HX hbe
    replace HB := aB HB hbe
    replace L1 := aI L1 hbe
    replace L2 := aE L2 hbe
    replace L3 := aS L3 hbe
    replace L5 := aI L5 hbe
    replace L6 := aE L6 hbe
    rw [show decide (E0 = E0) = true by simp]
    go_wp2_with fail
    refine (Sp.spansAre_any _ _ _ _ ([] : List (Int × Int)) ([] : List (Int × Int)) 3 _ L3.out (spNil _) (by simp)).mono ?_
    rintro e wf ⟨rfl, hbf⟩
    replace HW := aW HW hbf
    go_wp2
    go_ret
    exact ⟨rfl, HW.out⟩

set_option maxHeartbeats 16000000 in
theorem stockTells_big (hWB : WithOk) (x : Sail) (a : SailA) (c : Int) (b : Bkg) (fo : Option Addr) (fc : Nat) (w : World) (hs : SailAt w x a) (hf : Fo.EntsAt w fo fc b.fol) (HR : Aside (P.SailE x 0)) (hc1 : ¬ c < 0) (hc2 : (x.s.bs.length : Int) ≤ c) :
    Calls Tryz.prog 4 #[V.sail x a, .int .i64 c, V.bk b fo fc] w fun e w' => e = .returned (.bool true) ∧ Below w.heap.size w w' := by
  have hcle := hs.ship.cabs.le
  have hcmx := hs.ship.cabs.max
  unfold maxLen at hcmx
  have HW : Aside (Below w.heap.size w (W.bk (W.sail w x a) b fo fc)) := bvia (sail_below w x a) (bk_below _ b fo fc)
  have HX : Aside (SBox (W.bk (W.sail w x a) b fo fc) w.heap.size x a) := (SBox.new w x a).below (bk_below _ b fo fc)
  have HB : Aside (BBox (W.bk (W.sail w x a) b fo fc) (w.heap.size + 1) b fo fc) := by
    have := BBox.new (W.sail w x a) b fo fc
    rw [World.size_alloc] at this
    exact this
  have HWB : Aside WithOk := hWB
  clear hWB
  obtain ⟨d0, d1, d2, d3, d4, d5, d6, d7, d8, d9, d10, d11, d12⟩ := HX.out
  obtain ⟨z0, z1, z2, z3, z4, z5, z6, z7, z8, z9, z10⟩ := HB.out
  go_enter Tryz.func4, Tryz.ntmps4
  clear d0 d1 d2 d3 d4 d5 d6 d7 d8 d9 d10 d11 d12 z0 z1 z2 z3 z4 z5 z6 z7 z8 z9 z10
  obtain ⟨d0, d1, d2, d3, d4, d5, d6, d7, d8, d9, d10, d11, d12⟩ := HX.out
  obtain ⟨z0, z1, z2, z3, z4, z5, z6, z7, z8, z9, z10⟩ := HB.out
  go_wp2_with fail
  refine (stockPromises_any x a _ (hs.below HW.out)).mono ?_
  rintro e w1 ⟨r, v1, v2, rfl, hr1, own1, own2, hb1⟩
  replace HW := aW HW hb1
  replace HX := aX HX hb1
  replace HB := aB HB hb1
  clear d0 d1 d2 d3 d4 d5 d6 d7 d8 d9 d10 d11 d12 z0 z1 z2 z3 z4 z5 z6 z7 z8 z9 z10
  obtain rfl := SailE.one hr1 HR.out
  obtain ⟨ao1, cap1, rfl, l1⟩ := OwnJ.at own1
  obtain ⟨ao2, cap2, rfl, l2⟩ := OwnC.at cellsG_len own2
  have L1 : Aside (IntsAt w1 ao1 cap1 (P.ok 0 (P.pids x.bks))) := l1
  have L2 : Aside (Ma.EdgesAt w1 ao2 cap2 (P.ok 0 (P.pedg x.s x.bks 0 x.bks))) := l2
  clear own1 own2 l1 l2 hr1 hb1
  obtain ⟨d0, d1, d2, d3, d4, d5, d6, d7, d8, d9, d10, d11, d12⟩ := HX.out
  obtain ⟨z0, z1, z2, z3, z4, z5, z6, z7, z8, z9, z10⟩ := HB.out
  go_wp2_with fail
  refine (stockFree_any x a c _ (hs.below HW.out)).mono ?_
  rintro e w2 ⟨r2, v3, rfl, hr2, own3, hb2⟩
  replace HW := aW HW hb2
  replace HX := aX HX hb2
  replace HB := aB HB hb2
  replace L1 := aI L1 hb2
  replace L2 := aE L2 hb2
  clear d0 d1 d2 d3 d4 d5 d6 d7 d8 d9 d10 d11 d12 z0 z1 z2 z3 z4 z5 z6 z7 z8 z9 z10
  obtain rfl := SailE.one hr2 HR.out
  obtain ⟨ao3, cap3, rfl, l3⟩ := Sp.Own.at own3
  have L3 : Aside (Sp.SpAt w2 ao3 cap3 (P.freeL x 0 c)) := l3
  clear own3 l3 hr2 hb2
  obtain ⟨d0, d1, d2, d3, d4, d5, d6, d7, d8, d9, d10, d11, d12⟩ := HX.out
  obtain ⟨z0, z1, z2, z3, z4, z5, z6, z7, z8, z9, z10⟩ := HB.out
  go_wp2_with fail
  refine (stockCould_any x a b fo fc _ (hs.below HW.out) (SlAt.below Fo.REnt.mono hf HW.out)).mono ?_
  rintro e w3 ⟨r3, ok, rfl, hr3, hno, hyes, hb3⟩
  replace HW := aW HW hb3
  replace HX := aX HX hb3
  replace HB := aB HB hb3
  replace L1 := aI L1 hb3
  replace L2 := aE L2 hb3
  replace L3 := aS L3 hb3
  clear d0 d1 d2 d3 d4 d5 d6 d7 d8 d9 d10 d11 d12 z0 z1 z2 z3 z4 z5 z6 z7 z8 z9 z10
  obtain rfl := SailE.one hr3 HR.out
  have HNO : Aside ((¬ P.couldE x b 0 = 0 → ok = false) ∧ (P.couldE x b 0 = 0 → (ok = true ↔ P.SailE (P.withB x b) 0))) := ⟨hno, hyes⟩
  clear hr3 hb3 hno hyes
  obtain ⟨d0, d1, d2, d3, d4, d5, d6, d7, d8, d9, d10, d11, d12⟩ := HX.out
  obtain ⟨z0, z1, z2, z3, z4, z5, z6, z7, z8, z9, z10⟩ := HB.out
  go_wp2_with fail
  refine (refSail_any x a _ (hs.below HW.out)).mono ?_
  rintro e w4 ⟨r4, rfl, hr4, hb4⟩
  replace HW := aW HW hb4
  replace HX := aX HX hb4
  replace HB := aB HB hb4
  replace L1 := aI L1 hb4
  replace L2 := aE L2 hb4
  replace L3 := aS L3 hb4
  clear d0 d1 d2 d3 d4 d5 d6 d7 d8 d9 d10 d11 d12 z0 z1 z2 z3 z4 z5 z6 z7 z8 z9 z10
  obtain rfl := SailE.one hr4 HR.out
  clear hr4 hb4
  obtain ⟨_, _, h0, hbk, h16, ht, _⟩ := sail_ok HR.out
  have H0 : Aside (P.shp x.s = 0) := h0
  have HBK : Aside (∀ b ∈ x.bks, P.bkE x.s b = 0) := hbk
  have HSL : Aside (P.sails x.s.legs = true) := by have := shp_size h0; show _ = _; simp [P.sails]; omega
  have HCH : Aside (∀ b ∈ x.bks, P.chk b.frm b.to x.s.legs = 0) := fun b hb => (bk_ok (hbk b hb)).1
  have HCL : Aside (0 ≤ c ∧ c < x.s.bs.length → Sp.P.calendar (P.addsL x.s.legs [] (P.mine c x.bks)) x.s.legs = 0) := fun hcc => by
    obtain ⟨n, rfl⟩ : ∃ n : Nat, c = n := ⟨c.toNat, by omega⟩
    have hB : P.addsB x.s.legs (P.mine n x.bks) = true := by
      apply Classical.byContradiction
      intro h
      have := twice_hit (x := x) (c := n) (by omega) (by simpa using h)
      rw [ht] at this
      cases this
    exact adds_cal (nil_cal HSL.out) (by simpa [P.addsB] using hB)
  have e5 : P.ok 0 (P.pids x.bks) = P.pids x.bks := by rw [P.ok, if_pos rfl]
  have e6 : P.ok 0 (P.pedg x.s x.bks 0 x.bks) = P.pedg x.s x.bks 0 x.bks := by rw [P.ok, if_pos rfl]
  rw [e5] at L1 ⊢
  rw [e6] at L2 ⊢
  clear h0 hbk ht e5 e6
  cases hk : (P.bkE x.s b != 0)
  rotate_left
  · have e3 : P.freeE x 0 c = 3 := by rw [P.freeE, if_pos rfl, if_neg (by simp [P.cabB, P.btw]; omega)]
    have e4 : P.freeL x 0 c = [] := by rw [P.freeL, e3]; rfl
    have e1 : P.couldE x b 0 = P.bkE x.s b := by rw [P.couldE, if_pos rfl, if_neg (by simpa using hk)]
    have e2 : ok = false := HNO.out.1 (by rw [e1]; simpa using hk)
    have hk2 : (P.bkE x.s b == 0) = false := by simpa using hk
    rw [e1, e2]
    rw [e4] at L3 ⊢
    rw [e3]
    clear e1 e3 e4 HNO e2
    obtain ⟨d0, d1, d2, d3, d4, d5, d6, d7, d8, d9, d10, d11, d12⟩ := HX.out
    obtain ⟨z0, z1, z2, z3, z4, z5, z6, z7, z8, z9, z10⟩ := HB.out
    go_wp2_with fail
    refine (refBk_any x.s a.v b fo fc _ (hs.below HW.out).ship (SlAt.below Fo.REnt.mono hf HW.out) H0.out).mono ?_
    rintro e w5 ⟨rfl, hb5⟩
    replace HW := aW HW hb5
    replace HX := aX HX hb5
    replace HB := aB HB hb5
    replace L1 := aI L1 hb5
    replace L2 := aE L2 hb5
    replace L3 := aS L3 hb5
    clear d0 d1 d2 d3 d4 d5 d6 d7 d8 d9 d10 d11 d12 z0 z1 z2 z3 z4 z5 z6 z7 z8 z9 z10
    clear hb5
    obtain ⟨d0, d1, d2, d3, d4, d5, d6, d7, d8, d9, d10, d11, d12⟩ := HX.out
    obtain ⟨z0, z1, z2, z3, z4, z5, z6, z7, z8, z9, z10⟩ := HB.out
    go_wp2_with fail
    refine (promisesOf_any x a _ (hs.below HW.out) H0.out HBK.out h16).mono ?_
    rintro e w7 ⟨v5, v6, rfl, own5, own6, hb7⟩
    replace HW := aW HW hb7
    replace HX := aX HX hb7
    replace HB := aB HB hb7
    replace L1 := aI L1 hb7
    replace L2 := aE L2 hb7
    replace L3 := aS L3 hb7
    clear d0 d1 d2 d3 d4 d5 d6 d7 d8 d9 d10 d11 d12 z0 z1 z2 z3 z4 z5 z6 z7 z8 z9 z10
    obtain ⟨ao5, cap5, rfl, l5⟩ := OwnJ.at own5
    obtain ⟨ao6, cap6, rfl, l6⟩ := OwnC.at cellsG_len own6
    have L5 : Aside (IntsAt w7 ao5 cap5 (P.pids x.bks)) := l5
    have L6 : Aside (Ma.EdgesAt w7 ao6 cap6 (P.pedg x.s x.bks 0 x.bks)) := l6
    clear own5 own6 l5 l6 hb7
    generalize P.pids x.bks = I0 at L1 L5 ⊢
    generalize P.pedg x.s x.bks 0 x.bks = E0 at L2 L6 ⊢
    go_wp2_with fail
    refine (stockBegun_any _).mono ?_
    rintro e wb ⟨rfl, hbb⟩
    replace HW := aW HW hbb
    replace HX := aX HX hbb
    replace HB := aB HB hbb
    replace L1 := aI L1 hbb
    replace L2 := aE L2 hbb
    replace L3 := aS L3 hbb
    replace L5 := aI L5 hbb
    replace L6 := aE L6 hbb
    clear hbb
    obtain ⟨d0, d1, d2, d3, d4, d5, d6, d7, d8, d9, d10, d11, d12⟩ := HX.out
    obtain ⟨z0, z1, z2, z3, z4, z5, z6, z7, z8, z9, z10⟩ := HB.out
    go_wp2_with fail
    refine (stockCheck_any x a _ (hs.below HW.out)).mono ?_
    rintro e wc ⟨rc, rfl, hrc, hbc⟩
    replace HW := aW HW hbc
    replace HX := aX HX hbc
    replace HB := aB HB hbc
    replace L1 := aI L1 hbc
    replace L2 := aE L2 hbc
    replace L3 := aS L3 hbc
    replace L5 := aI L5 hbc
    replace L6 := aE L6 hbc
    clear d0 d1 d2 d3 d4 d5 d6 d7 d8 d9 d10 d11 d12 z0 z1 z2 z3 z4 z5 z6 z7 z8 z9 z10
    obtain hrr := SailE.one hrc HR.out
    rw [hrr]
    clear hrc hbc hrr
    go_wp2_with fail
    refine (Ma.intsAre_any _ _ _ _ I0 I0 0 0 _ L1.out L5.out).mono ?_
    rintro e wd ⟨rfl, hbd⟩
    replace HW := aW HW hbd
    replace HX := aX HX hbd
    replace HB := aB HB hbd
    replace L1 := aI L1 hbd
    replace L2 := aE L2 hbd
    replace L3 := aS L3 hbd
    replace L5 := aI L5 hbd
    replace L6 := aE L6 hbd
    rw [show (decide ((0 : Int) = 0) && decide (I0 = Ma.P.wantI 0 I0)) = true by simp [Ma.P.wantI]]
    go_wp2_with fail
    refine (sameEdges_any _ _ _ _ E0 E0 _ L2.out L6.out).mono ?_
    rintro e we ⟨rfl, hbe⟩
    replace HW := aW HW hbe
    replace HX := aX HX hbe
    replace HB := aB HB hbe
    replace L1 := aI L1 hbe
    replace L2 := aE L2 hbe
    replace L3 := aS L3 hbe
    replace L5 := aI L5 hbe
    replace L6 := aE L6 hbe
    rw [show decide (E0 = E0) = true by simp]
    go_wp2_with fail
    refine (Sp.spansAre_any _ _ _ _ ([] : List (Int × Int)) ([] : List (Int × Int)) 3 _ L3.out (spNil _) (by simp)).mono ?_
    rintro e wf ⟨rfl, hbf⟩
    replace HW := aW HW hbf
    go_wp2
    go_ret
    exact ⟨rfl, HW.out⟩
  have HK0 : Aside (P.bkE x.s b = 0) := by show _ = _; simpa using hk
  clear hk
  cases hid : x.bks.any (fun y => decide (y.id = b.id))
  · have e3 : P.freeE x 0 c = 3 := by rw [P.freeE, if_pos rfl, if_neg (by simp [P.cabB, P.btw]; omega)]
    have e4 : P.freeL x 0 c = [] := by rw [P.freeL, e3]; rfl
    have hbt : P.bat b.id 0 x.bks = -1 := bat_any.2 hid
    have HBT : Aside (P.bat b.id 0 x.bks = -1) := hbt
    have HID : Aside (x.bks.any (fun y => decide (y.id = b.id)) = false) := hid
    have e1 : P.couldE x b 0 = 0 := by rw [P.couldE, if_pos rfl, if_pos HK0.out, if_neg (by simp [hid])]
    have HOK : Aside (ok = true ↔ P.SailE (P.withB x b) 0) := HNO.out.2 e1
    rw [e1]
    clear hid hbt
    rw [e4] at L3 ⊢
    rw [e3]
    clear e1 e3 e4 HNO
    obtain ⟨d0, d1, d2, d3, d4, d5, d6, d7, d8, d9, d10, d11, d12⟩ := HX.out
    obtain ⟨z0, z1, z2, z3, z4, z5, z6, z7, z8, z9, z10⟩ := HB.out
    go_wp2_with fail
    refine (refBk_any x.s a.v b fo fc _ (hs.below HW.out).ship (SlAt.below Fo.REnt.mono hf HW.out) H0.out).mono ?_
    rintro e w5 ⟨rfl, hb5⟩
    replace HW := aW HW hb5
    replace HX := aX HX hb5
    replace HB := aB HB hb5
    replace L1 := aI L1 hb5
    replace L2 := aE L2 hb5
    replace L3 := aS L3 hb5
    clear d0 d1 d2 d3 d4 d5 d6 d7 d8 d9 d10 d11 d12 z0 z1 z2 z3 z4 z5 z6 z7 z8 z9 z10
    clear hb5
    rw [HK0.out]
    obtain ⟨d0, d1, d2, d3, d4, d5, d6, d7, d8, d9, d10, d11, d12⟩ := HX.out
    obtain ⟨z0, z1, z2, z3, z4, z5, z6, z7, z8, z9, z10⟩ := HB.out
    go_wp2_with fail
    refine (bookingAt_any x a b.id _ (hs.below HW.out)).mono ?_
    rintro e w6 ⟨rfl, hb6⟩
    replace HW := aW HW hb6
    replace HX := aX HX hb6
    replace HB := aB HB hb6
    replace L1 := aI L1 hb6
    replace L2 := aE L2 hb6
    replace L3 := aS L3 hb6
    clear d0 d1 d2 d3 d4 d5 d6 d7 d8 d9 d10 d11 d12 z0 z1 z2 z3 z4 z5 z6 z7 z8 z9 z10
    clear hb6
    rw [HBT.out]
    obtain ⟨d0, d1, d2, d3, d4, d5, d6, d7, d8, d9, d10, d11, d12⟩ := HX.out
    obtain ⟨z0, z1, z2, z3, z4, z5, z6, z7, z8, z9, z10⟩ := HB.out
    go_wp2_with fail
    refine (promisesOf_any x a _ (hs.below HW.out) H0.out HBK.out h16).mono ?_
    rintro e w7 ⟨v5, v6, rfl, own5, own6, hb7⟩
    replace HW := aW HW hb7
    replace HX := aX HX hb7
    replace HB := aB HB hb7
    replace L1 := aI L1 hb7
    replace L2 := aE L2 hb7
    replace L3 := aS L3 hb7
    clear d0 d1 d2 d3 d4 d5 d6 d7 d8 d9 d10 d11 d12 z0 z1 z2 z3 z4 z5 z6 z7 z8 z9 z10
    obtain ⟨ao5, cap5, rfl, l5⟩ := OwnJ.at own5
    obtain ⟨ao6, cap6, rfl, l6⟩ := OwnC.at cellsG_len own6
    have L5 : Aside (IntsAt w7 ao5 cap5 (P.pids x.bks)) := l5
    have L6 : Aside (Ma.EdgesAt w7 ao6 cap6 (P.pedg x.s x.bks 0 x.bks)) := l6
    clear own5 own6 l5 l6 hb7
    generalize P.pids x.bks = I0 at L1 L5 ⊢
    generalize P.pedg x.s x.bks 0 x.bks = E0 at L2 L6 ⊢
    obtain ⟨d0, d1, d2, d3, d4, d5, d6, d7, d8, d9, d10, d11, d12⟩ := HX.out
    obtain ⟨z0, z1, z2, z3, z4, z5, z6, z7, z8, z9, z10⟩ := HB.out
    go_wp2_with fail
    refine (HWB.out x a b fo fc _ (hs.below HW.out) (SlAt.below Fo.REnt.mono hf HW.out) HR.out HID.out).mono ?_
    rintro e wa ⟨a', rfl, s', hba⟩
    replace HW := aW HW hba
    replace HX := aX HX hba
    replace HB := aB HB hba
    replace L1 := aI L1 hba
    replace L2 := aE L2 hba
    replace L3 := aS L3 hba
    replace L5 := aI L5 hba
    replace L6 := aE L6 hba
    clear d0 d1 d2 d3 d4 d5 d6 d7 d8 d9 d10 d11 d12 z0 z1 z2 z3 z4 z5 z6 z7 z8 z9 z10
    go_wp2_with fail
    refine (refSail_any (P.withB x b) a' _ s').mono ?_
    rintro e wg ⟨rg, rfl, hrg, hbg⟩
    replace HW := aW HW hbg
    replace HX := aX HX hbg
    replace HB := aB HB hbg
    replace L1 := aI L1 hbg
    replace L2 := aE L2 hbg
    replace L3 := aS L3 hbg
    replace L5 := aI L5 hbg
    replace L6 := aE L6 hbg
    have hrk : (rg == 0) = ok := by
      rw [Bool.eq_iff_iff, HOK.out, beq_iff_eq]
      exact ⟨fun h => by rw [h] at hrg; exact hrg, fun h => SailE.one hrg h⟩
    clear hrg hbg s' hba HOK
    go_wp2_with fail
    refine (stockBegun_any _).mono ?_
    rintro e wb ⟨rfl, hbb⟩
    replace HW := aW HW hbb
    replace HX := aX HX hbb
    replace HB := aB HB hbb
    replace L1 := aI L1 hbb
    replace L2 := aE L2 hbb
    replace L3 := aS L3 hbb
    replace L5 := aI L5 hbb
    replace L6 := aE L6 hbb
    clear hbb
    obtain ⟨d0, d1, d2, d3, d4, d5, d6, d7, d8, d9, d10, d11, d12⟩ := HX.out
    obtain ⟨z0, z1, z2, z3, z4, z5, z6, z7, z8, z9, z10⟩ := HB.out
    go_wp2_with fail
    refine (stockCheck_any x a _ (hs.below HW.out)).mono ?_
    rintro e wc ⟨rc, rfl, hrc, hbc⟩
    replace HW := aW HW hbc
    replace HX := aX HX hbc
    replace HB := aB HB hbc
    replace L1 := aI L1 hbc
    replace L2 := aE L2 hbc
    replace L3 := aS L3 hbc
    replace L5 := aI L5 hbc
    replace L6 := aE L6 hbc
    clear d0 d1 d2 d3 d4 d5 d6 d7 d8 d9 d10 d11 d12 z0 z1 z2 z3 z4 z5 z6 z7 z8 z9 z10
    obtain hrr := SailE.one hrc HR.out
    rw [hrr]
    clear hrc hbc hrr
    go_wp2_with fail
    refine (Ma.intsAre_any _ _ _ _ I0 I0 0 0 _ L1.out L5.out).mono ?_
    rintro e wd ⟨rfl, hbd⟩
    replace HW := aW HW hbd
    replace HX := aX HX hbd
    replace HB := aB HB hbd
    replace L1 := aI L1 hbd
    replace L2 := aE L2 hbd
    replace L3 := aS L3 hbd
    replace L5 := aI L5 hbd
    replace L6 := aE L6 hbd
    rw [show (decide ((0 : Int) = 0) && decide (I0 = Ma.P.wantI 0 I0)) = true by simp [Ma.P.wantI]]
    go_wp2_with fail
    refine (sameEdges_any _ _ _ _ E0 E0 _ L2.out L6.out).mono ?_
    rintro e we ⟨rfl, hbe⟩
    replace HW := aW HW hbe
    replace HX := aX HX hbe
    replace HB := aB HB hbe
    replace L1 := aI L1 hbe
    replace L2 := aE L2 hbe
    replace L3 := aS L3 hbe
    replace L5 := aI L5 hbe
    replace L6 := aE L6 hbe
    rw [show decide (E0 = E0) = true by simp]
    go_wp2_with fail
    refine (Sp.spansAre_any _ _ _ _ ([] : List (Int × Int)) ([] : List (Int × Int)) 3 _ L3.out (spNil _) (by simp)).mono ?_
    rintro e wf ⟨rfl, hbf⟩
    replace HW := aW HW hbf
    cases ok
    all_goals
      go_wp2
      go_ret
      exact ⟨rfl, HW.out⟩
  · have e3 : P.freeE x 0 c = 3 := by rw [P.freeE, if_pos rfl, if_neg (by simp [P.cabB, P.btw]; omega)]
    have e4 : P.freeL x 0 c = [] := by rw [P.freeL, e3]; rfl
    have hbt : (0 : Int) ≤ P.bat b.id 0 x.bks := bat_any.1 hid
    have e1 : P.couldE x b 0 = 6 := by rw [P.couldE, if_pos rfl, if_pos HK0.out, if_pos hid]
    have e2 : ok = false := HNO.out.1 (by rw [e1]; decide)
    rw [e1, e2]
    clear hid
    rw [e4] at L3 ⊢
    rw [e3]
    clear e1 e3 e4 HNO e2
    obtain ⟨d0, d1, d2, d3, d4, d5, d6, d7, d8, d9, d10, d11, d12⟩ := HX.out
    obtain ⟨z0, z1, z2, z3, z4, z5, z6, z7, z8, z9, z10⟩ := HB.out
    go_wp2_with fail
    refine (refBk_any x.s a.v b fo fc _ (hs.below HW.out).ship (SlAt.below Fo.REnt.mono hf HW.out) H0.out).mono ?_
    rintro e w5 ⟨rfl, hb5⟩
    replace HW := aW HW hb5
    replace HX := aX HX hb5
    replace HB := aB HB hb5
    replace L1 := aI L1 hb5
    replace L2 := aE L2 hb5
    replace L3 := aS L3 hb5
    clear d0 d1 d2 d3 d4 d5 d6 d7 d8 d9 d10 d11 d12 z0 z1 z2 z3 z4 z5 z6 z7 z8 z9 z10
    clear hb5
    rw [HK0.out]
    obtain ⟨d0, d1, d2, d3, d4, d5, d6, d7, d8, d9, d10, d11, d12⟩ := HX.out
    obtain ⟨z0, z1, z2, z3, z4, z5, z6, z7, z8, z9, z10⟩ := HB.out
    go_wp2_with fail
    refine (bookingAt_any x a b.id _ (hs.below HW.out)).mono ?_
    rintro e w6 ⟨rfl, hb6⟩
    replace HW := aW HW hb6
    replace HX := aX HX hb6
    replace HB := aB HB hb6
    replace L1 := aI L1 hb6
    replace L2 := aE L2 hb6
    replace L3 := aS L3 hb6
    clear d0 d1 d2 d3 d4 d5 d6 d7 d8 d9 d10 d11 d12 z0 z1 z2 z3 z4 z5 z6 z7 z8 z9 z10
    clear hb6
    obtain ⟨d0, d1, d2, d3, d4, d5, d6, d7, d8, d9, d10, d11, d12⟩ := HX.out
    obtain ⟨z0, z1, z2, z3, z4, z5, z6, z7, z8, z9, z10⟩ := HB.out
    go_wp2_with fail
    refine (promisesOf_any x a _ (hs.below HW.out) H0.out HBK.out h16).mono ?_
    rintro e w7 ⟨v5, v6, rfl, own5, own6, hb7⟩
    replace HW := aW HW hb7
    replace HX := aX HX hb7
    replace HB := aB HB hb7
    replace L1 := aI L1 hb7
    replace L2 := aE L2 hb7
    replace L3 := aS L3 hb7
    clear d0 d1 d2 d3 d4 d5 d6 d7 d8 d9 d10 d11 d12 z0 z1 z2 z3 z4 z5 z6 z7 z8 z9 z10
    obtain ⟨ao5, cap5, rfl, l5⟩ := OwnJ.at own5
    obtain ⟨ao6, cap6, rfl, l6⟩ := OwnC.at cellsG_len own6
    have L5 : Aside (IntsAt w7 ao5 cap5 (P.pids x.bks)) := l5
    have L6 : Aside (Ma.EdgesAt w7 ao6 cap6 (P.pedg x.s x.bks 0 x.bks)) := l6
    clear own5 own6 l5 l6 hb7
    generalize P.pids x.bks = I0 at L1 L5 ⊢
    generalize P.pedg x.s x.bks 0 x.bks = E0 at L2 L6 ⊢
    go_wp2_with fail
    refine (stockBegun_any _).mono ?_
    rintro e wb ⟨rfl, hbb⟩
    replace HW := aW HW hbb
    replace HX := aX HX hbb
    replace HB := aB HB hbb
    replace L1 := aI L1 hbb
    replace L2 := aE L2 hbb
    replace L3 := aS L3 hbb
    replace L5 := aI L5 hbb
    replace L6 := aE L6 hbb
    clear hbb
    obtain ⟨d0, d1, d2, d3, d4, d5, d6, d7, d8, d9, d10, d11, d12⟩ := HX.out
    obtain ⟨z0, z1, z2, z3, z4, z5, z6, z7, z8, z9, z10⟩ := HB.out
    go_wp2_with fail
    refine (stockCheck_any x a _ (hs.below HW.out)).mono ?_
    rintro e wc ⟨rc, rfl, hrc, hbc⟩
    replace HW := aW HW hbc
    replace HX := aX HX hbc
    replace HB := aB HB hbc
    replace L1 := aI L1 hbc
    replace L2 := aE L2 hbc
    replace L3 := aS L3 hbc
    replace L5 := aI L5 hbc
    replace L6 := aE L6 hbc
    clear d0 d1 d2 d3 d4 d5 d6 d7 d8 d9 d10 d11 d12 z0 z1 z2 z3 z4 z5 z6 z7 z8 z9 z10
    obtain hrr := SailE.one hrc HR.out
    rw [hrr]
    clear hrc hbc hrr
    go_wp2_with fail
    refine (Ma.intsAre_any _ _ _ _ I0 I0 0 0 _ L1.out L5.out).mono ?_
    rintro e wd ⟨rfl, hbd⟩
    replace HW := aW HW hbd
    replace HX := aX HX hbd
    replace HB := aB HB hbd
    replace L1 := aI L1 hbd
    replace L2 := aE L2 hbd
    replace L3 := aS L3 hbd
    replace L5 := aI L5 hbd
    replace L6 := aE L6 hbd
    rw [show (decide ((0 : Int) = 0) && decide (I0 = Ma.P.wantI 0 I0)) = true by simp [Ma.P.wantI]]
    go_wp2_with fail
    refine (sameEdges_any _ _ _ _ E0 E0 _ L2.out L6.out).mono ?_
    rintro e we ⟨rfl, hbe⟩
    replace HW := aW HW hbe
    replace HX := aX HX hbe
    replace HB := aB HB hbe
    replace L1 := aI L1 hbe
    replace L2 := aE L2 hbe
    replace L3 := aS L3 hbe
    replace L5 := aI L5 hbe
    replace L6 := aE L6 hbe
    rw [show decide (E0 = E0) = true by simp]
    go_wp2_with fail
    refine (Sp.spansAre_any _ _ _ _ ([] : List (Int × Int)) ([] : List (Int × Int)) 3 _ L3.out (spNil _) (by simp)).mono ?_
    rintro e wf ⟨rfl, hbf⟩
    replace HW := aW HW hbf
    go_wp2
    go_ret
    exact ⟨rfl, HW.out⟩

set_option maxHeartbeats 16000000 in
theorem stockTells_in (hWB : WithOk) (x : Sail) (a : SailA) (c : Int) (b : Bkg) (fo : Option Addr) (fc : Nat) (w : World) (hs : SailAt w x a) (hf : Fo.EntsAt w fo fc b.fol) (HR : Aside (P.SailE x 0)) (hc1 : ¬ c < 0) (hc2 : ¬ (x.s.bs.length : Int) ≤ c) :
    Calls Tryz.prog 4 #[V.sail x a, .int .i64 c, V.bk b fo fc] w fun e w' => e = .returned (.bool true) ∧ Below w.heap.size w w' := by
  have hcle := hs.ship.cabs.le
  have hcmx := hs.ship.cabs.max
  unfold maxLen at hcmx
  have HW : Aside (Below w.heap.size w (W.bk (W.sail w x a) b fo fc)) := bvia (sail_below w x a) (bk_below _ b fo fc)
  have HX : Aside (SBox (W.bk (W.sail w x a) b fo fc) w.heap.size x a) := (SBox.new w x a).below (bk_below _ b fo fc)
  have HB : Aside (BBox (W.bk (W.sail w x a) b fo fc) (w.heap.size + 1) b fo fc) := by
    have := BBox.new (W.sail w x a) b fo fc
    rw [World.size_alloc] at this
    exact this
  have HWB : Aside WithOk := hWB
  clear hWB
  obtain ⟨d0, d1, d2, d3, d4, d5, d6, d7, d8, d9, d10, d11, d12⟩ := HX.out
  obtain ⟨z0, z1, z2, z3, z4, z5, z6, z7, z8, z9, z10⟩ := HB.out
  go_enter Tryz.func4, Tryz.ntmps4
  clear d0 d1 d2 d3 d4 d5 d6 d7 d8 d9 d10 d11 d12 z0 z1 z2 z3 z4 z5 z6 z7 z8 z9 z10
  obtain ⟨d0, d1, d2, d3, d4, d5, d6, d7, d8, d9, d10, d11, d12⟩ := HX.out
  obtain ⟨z0, z1, z2, z3, z4, z5, z6, z7, z8, z9, z10⟩ := HB.out
  go_wp2_with fail
  refine (stockPromises_any x a _ (hs.below HW.out)).mono ?_
  rintro e w1 ⟨r, v1, v2, rfl, hr1, own1, own2, hb1⟩
  replace HW := aW HW hb1
  replace HX := aX HX hb1
  replace HB := aB HB hb1
  clear d0 d1 d2 d3 d4 d5 d6 d7 d8 d9 d10 d11 d12 z0 z1 z2 z3 z4 z5 z6 z7 z8 z9 z10
  obtain rfl := SailE.one hr1 HR.out
  obtain ⟨ao1, cap1, rfl, l1⟩ := OwnJ.at own1
  obtain ⟨ao2, cap2, rfl, l2⟩ := OwnC.at cellsG_len own2
  have L1 : Aside (IntsAt w1 ao1 cap1 (P.ok 0 (P.pids x.bks))) := l1
  have L2 : Aside (Ma.EdgesAt w1 ao2 cap2 (P.ok 0 (P.pedg x.s x.bks 0 x.bks))) := l2
  clear own1 own2 l1 l2 hr1 hb1
  obtain ⟨d0, d1, d2, d3, d4, d5, d6, d7, d8, d9, d10, d11, d12⟩ := HX.out
  obtain ⟨z0, z1, z2, z3, z4, z5, z6, z7, z8, z9, z10⟩ := HB.out
  go_wp2_with fail
  refine (stockFree_any x a c _ (hs.below HW.out)).mono ?_
  rintro e w2 ⟨r2, v3, rfl, hr2, own3, hb2⟩
  replace HW := aW HW hb2
  replace HX := aX HX hb2
  replace HB := aB HB hb2
  replace L1 := aI L1 hb2
  replace L2 := aE L2 hb2
  clear d0 d1 d2 d3 d4 d5 d6 d7 d8 d9 d10 d11 d12 z0 z1 z2 z3 z4 z5 z6 z7 z8 z9 z10
  obtain rfl := SailE.one hr2 HR.out
  obtain ⟨ao3, cap3, rfl, l3⟩ := Sp.Own.at own3
  have L3 : Aside (Sp.SpAt w2 ao3 cap3 (P.freeL x 0 c)) := l3
  clear own3 l3 hr2 hb2
  obtain ⟨d0, d1, d2, d3, d4, d5, d6, d7, d8, d9, d10, d11, d12⟩ := HX.out
  obtain ⟨z0, z1, z2, z3, z4, z5, z6, z7, z8, z9, z10⟩ := HB.out
  go_wp2_with fail
  refine (stockCould_any x a b fo fc _ (hs.below HW.out) (SlAt.below Fo.REnt.mono hf HW.out)).mono ?_
  rintro e w3 ⟨r3, ok, rfl, hr3, hno, hyes, hb3⟩
  replace HW := aW HW hb3
  replace HX := aX HX hb3
  replace HB := aB HB hb3
  replace L1 := aI L1 hb3
  replace L2 := aE L2 hb3
  replace L3 := aS L3 hb3
  clear d0 d1 d2 d3 d4 d5 d6 d7 d8 d9 d10 d11 d12 z0 z1 z2 z3 z4 z5 z6 z7 z8 z9 z10
  obtain rfl := SailE.one hr3 HR.out
  have HNO : Aside ((¬ P.couldE x b 0 = 0 → ok = false) ∧ (P.couldE x b 0 = 0 → (ok = true ↔ P.SailE (P.withB x b) 0))) := ⟨hno, hyes⟩
  clear hr3 hb3 hno hyes
  obtain ⟨d0, d1, d2, d3, d4, d5, d6, d7, d8, d9, d10, d11, d12⟩ := HX.out
  obtain ⟨z0, z1, z2, z3, z4, z5, z6, z7, z8, z9, z10⟩ := HB.out
  go_wp2_with fail
  refine (refSail_any x a _ (hs.below HW.out)).mono ?_
  rintro e w4 ⟨r4, rfl, hr4, hb4⟩
  replace HW := aW HW hb4
  replace HX := aX HX hb4
  replace HB := aB HB hb4
  replace L1 := aI L1 hb4
  replace L2 := aE L2 hb4
  replace L3 := aS L3 hb4
  clear d0 d1 d2 d3 d4 d5 d6 d7 d8 d9 d10 d11 d12 z0 z1 z2 z3 z4 z5 z6 z7 z8 z9 z10
  obtain rfl := SailE.one hr4 HR.out
  clear hr4 hb4
  obtain ⟨_, _, h0, hbk, h16, ht, _⟩ := sail_ok HR.out
  have H0 : Aside (P.shp x.s = 0) := h0
  have HBK : Aside (∀ b ∈ x.bks, P.bkE x.s b = 0) := hbk
  have HSL : Aside (P.sails x.s.legs = true) := by have := shp_size h0; show _ = _; simp [P.sails]; omega
  have HCH : Aside (∀ b ∈ x.bks, P.chk b.frm b.to x.s.legs = 0) := fun b hb => (bk_ok (hbk b hb)).1
  have HCL : Aside (0 ≤ c ∧ c < x.s.bs.length → Sp.P.calendar (P.addsL x.s.legs [] (P.mine c x.bks)) x.s.legs = 0) := fun hcc => by
    obtain ⟨n, rfl⟩ : ∃ n : Nat, c = n := ⟨c.toNat, by omega⟩
    have hB : P.addsB x.s.legs (P.mine n x.bks) = true := by
      apply Classical.byContradiction
      intro h
      have := twice_hit (x := x) (c := n) (by omega) (by simpa using h)
      rw [ht] at this
      cases this
    exact adds_cal (nil_cal HSL.out) (by simpa [P.addsB] using hB)
  have e5 : P.ok 0 (P.pids x.bks) = P.pids x.bks := by rw [P.ok, if_pos rfl]
  have e6 : P.ok 0 (P.pedg x.s x.bks 0 x.bks) = P.pedg x.s x.bks 0 x.bks := by rw [P.ok, if_pos rfl]
  rw [e5] at L1 ⊢
  rw [e6] at L2 ⊢
  clear h0 hbk ht e5 e6
  cases hk : (P.bkE x.s b != 0)
  rotate_left
  · have e3 : P.freeE x 0 c = 0 := by rw [P.freeE, if_pos rfl, if_pos (cabB_in (by omega) (by omega))]
    have e4 : P.freeL x 0 c = Sp.P.free (P.addsL x.s.legs [] (P.mine c x.bks)) x.s.legs := by rw [P.freeL, if_pos e3]
    have HCAL : Aside (Sp.P.calendar (P.addsL x.s.legs [] (P.mine c x.bks)) x.s.legs = 0) := HCL.out ⟨by omega, by omega⟩
    have e1 : P.couldE x b 0 = P.bkE x.s b := by rw [P.couldE, if_pos rfl, if_neg (by simpa using hk)]
    have e2 : ok = false := HNO.out.1 (by rw [e1]; simpa using hk)
    have hk2 : (P.bkE x.s b == 0) = false := by simpa using hk
    rw [e1, e2]
    rw [e4] at L3 ⊢
    rw [e3]
    clear e1 e3 e4 HNO e2
    obtain ⟨d0, d1, d2, d3, d4, d5, d6, d7, d8, d9, d10, d11, d12⟩ := HX.out
    obtain ⟨z0, z1, z2, z3, z4, z5, z6, z7, z8, z9, z10⟩ := HB.out
    go_wp2_with fail
    refine (refBk_any x.s a.v b fo fc _ (hs.below HW.out).ship (SlAt.below Fo.REnt.mono hf HW.out) H0.out).mono ?_
    rintro e w5 ⟨rfl, hb5⟩
    replace HW := aW HW hb5
    replace HX := aX HX hb5
    replace HB := aB HB hb5
    replace L1 := aI L1 hb5
    replace L2 := aE L2 hb5
    replace L3 := aS L3 hb5
    clear d0 d1 d2 d3 d4 d5 d6 d7 d8 d9 d10 d11 d12 z0 z1 z2 z3 z4 z5 z6 z7 z8 z9 z10
    clear hb5
    obtain ⟨d0, d1, d2, d3, d4, d5, d6, d7, d8, d9, d10, d11, d12⟩ := HX.out
    obtain ⟨z0, z1, z2, z3, z4, z5, z6, z7, z8, z9, z10⟩ := HB.out
    go_wp2_with fail
    refine (promisesOf_any x a _ (hs.below HW.out) H0.out HBK.out h16).mono ?_
    rintro e w7 ⟨v5, v6, rfl, own5, own6, hb7⟩
    replace HW := aW HW hb7
    replace HX := aX HX hb7
    replace HB := aB HB hb7
    replace L1 := aI L1 hb7
    replace L2 := aE L2 hb7
    replace L3 := aS L3 hb7
    clear d0 d1 d2 d3 d4 d5 d6 d7 d8 d9 d10 d11 d12 z0 z1 z2 z3 z4 z5 z6 z7 z8 z9 z10
    obtain ⟨ao5, cap5, rfl, l5⟩ := OwnJ.at own5
    obtain ⟨ao6, cap6, rfl, l6⟩ := OwnC.at cellsG_len own6
    have L5 : Aside (IntsAt w7 ao5 cap5 (P.pids x.bks)) := l5
    have L6 : Aside (Ma.EdgesAt w7 ao6 cap6 (P.pedg x.s x.bks 0 x.bks)) := l6
    clear own5 own6 l5 l6 hb7
    generalize P.pids x.bks = I0 at L1 L5 ⊢
    generalize P.pedg x.s x.bks 0 x.bks = E0 at L2 L6 ⊢
    obtain ⟨d0, d1, d2, d3, d4, d5, d6, d7, d8, d9, d10, d11, d12⟩ := HX.out
    obtain ⟨z0, z1, z2, z3, z4, z5, z6, z7, z8, z9, z10⟩ := HB.out
    go_wp2_with fail
    refine (spansOf_any x.s.legs a.ao a.cap x.bks c _ (SlAt.below RBk.mono hs.bks HW.out) HSL.out HCH.out).mono ?_
    rintro e w8 ⟨v7, rfl, own7, hb8⟩
    replace HW := aW HW hb8
    replace HX := aX HX hb8
    replace HB := aB HB hb8
    replace L1 := aI L1 hb8
    replace L2 := aE L2 hb8
    replace L3 := aS L3 hb8
    replace L5 := aI L5 hb8
    replace L6 := aE L6 hb8
    clear d0 d1 d2 d3 d4 d5 d6 d7 d8 d9 d10 d11 d12 z0 z1 z2 z3 z4 z5 z6 z7 z8 z9 z10
    generalize P.addsL x.s.legs [] (P.mine c x.bks) = AL at own7 HCAL L3 ⊢
    obtain ⟨ao7, cap7, rfl, l7⟩ := Sp.Own.at own7
    have L7 : Aside (Sp.SpAt w8 ao7 cap7 AL) := l7
    clear own7 l7 hb8
    obtain ⟨d0, d1, d2, d3, d4, d5, d6, d7, d8, d9, d10, d11, d12⟩ := HX.out
    obtain ⟨z0, z1, z2, z3, z4, z5, z6, z7, z8, z9, z10⟩ := HB.out
    go_wp2_with fail
    refine (Sp.freeOf_any ao7 cap7 AL x.s.legs _ L7.out HCAL.out).mono ?_
    rintro e w9 ⟨v8, rfl, own8, hb9⟩
    replace HW := aW HW hb9
    replace HX := aX HX hb9
    replace HB := aB HB hb9
    replace L1 := aI L1 hb9
    replace L2 := aE L2 hb9
    replace L3 := aS L3 hb9
    replace L5 := aI L5 hb9
    replace L6 := aE L6 hb9
    clear d0 d1 d2 d3 d4 d5 d6 d7 d8 d9 d10 d11 d12 z0 z1 z2 z3 z4 z5 z6 z7 z8 z9 z10
    obtain ⟨ao8, cap8, rfl, l8⟩ := Sp.Own.at own8
    have L8 : Aside (Sp.SpAt w9 ao8 cap8 (Sp.P.free AL x.s.legs)) := l8
    clear own8 l8 hb9 L7
    generalize Sp.P.free AL x.s.legs = F0 at L3 L8 ⊢
    go_wp2_with fail
    refine (stockBegun_any _).mono ?_
    rintro e wb ⟨rfl, hbb⟩
    replace HW := aW HW hbb
    replace HX := aX HX hbb
    replace HB := aB HB hbb
    replace L1 := aI L1 hbb
    replace L2 := aE L2 hbb
    replace L3 := aS L3 hbb
    replace L5 := aI L5 hbb
    replace L6 := aE L6 hbb
    replace L8 := aS L8 hbb
    clear hbb
    obtain ⟨d0, d1, d2, d3, d4, d5, d6, d7, d8, d9, d10, d11, d12⟩ := HX.out
    obtain ⟨z0, z1, z2, z3, z4, z5, z6, z7, z8, z9, z10⟩ := HB.out
    go_wp2_with fail
    refine (stockCheck_any x a _ (hs.below HW.out)).mono ?_
    rintro e wc ⟨rc, rfl, hrc, hbc⟩
    replace HW := aW HW hbc
    replace HX := aX HX hbc
    replace HB := aB HB hbc
    replace L1 := aI L1 hbc
    replace L2 := aE L2 hbc
    replace L3 := aS L3 hbc
    replace L5 := aI L5 hbc
    replace L6 := aE L6 hbc
    replace L8 := aS L8 hbc
    clear d0 d1 d2 d3 d4 d5 d6 d7 d8 d9 d10 d11 d12 z0 z1 z2 z3 z4 z5 z6 z7 z8 z9 z10
    obtain hrr := SailE.one hrc HR.out
    rw [hrr]
    clear hrc hbc hrr
    go_wp2_with fail
    refine (Ma.intsAre_any _ _ _ _ I0 I0 0 0 _ L1.out L5.out).mono ?_
    rintro e wd ⟨rfl, hbd⟩
    replace HW := aW HW hbd
    replace HX := aX HX hbd
    replace HB := aB HB hbd
    replace L1 := aI L1 hbd
    replace L2 := aE L2 hbd
    replace L3 := aS L3 hbd
    replace L5 := aI L5 hbd
    replace L6 := aE L6 hbd
    replace L8 := aS L8 hbd
    rw [show (decide ((0 : Int) = 0) && decide (I0 = Ma.P.wantI 0 I0)) = true by simp [Ma.P.wantI]]
    go_wp2_with fail
    refine (sameEdges_any _ _ _ _ E0 E0 _ L2.out L6.out).mono ?_
    rintro e we ⟨rfl, hbe⟩
    replace HW := aW HW hbe
    replace HX := aX HX hbe
    replace HB := aB HB hbe
    replace L1 := aI L1 hbe
    replace L2 := aE L2 hbe
    replace L3 := aS L3 hbe
    replace L5 := aI L5 hbe
    replace L6 := aE L6 hbe
    replace L8 := aS L8 hbe
    rw [show decide (E0 = E0) = true by simp]
    go_wp2_with fail
    refine (Sp.spansAre_any _ _ _ _ F0 F0 0 _ L3.out L8.out (by simp)).mono ?_
    rintro e wf ⟨rfl, hbf⟩
    replace HW := aW HW hbf
    go_wp2
    go_ret
    exact ⟨rfl, HW.out⟩
  have HK0 : Aside (P.bkE x.s b = 0) := by show _ = _; simpa using hk
  clear hk
  cases hid : x.bks.any (fun y => decide (y.id = b.id))
  · have e3 : P.freeE x 0 c = 0 := by rw [P.freeE, if_pos rfl, if_pos (cabB_in (by omega) (by omega))]
    have e4 : P.freeL x 0 c = Sp.P.free (P.addsL x.s.legs [] (P.mine c x.bks)) x.s.legs := by rw [P.freeL, if_pos e3]
    have HCAL : Aside (Sp.P.calendar (P.addsL x.s.legs [] (P.mine c x.bks)) x.s.legs = 0) := HCL.out ⟨by omega, by omega⟩
    have hbt : P.bat b.id 0 x.bks = -1 := bat_any.2 hid
    have HBT : Aside (P.bat b.id 0 x.bks = -1) := hbt
    have HID : Aside (x.bks.any (fun y => decide (y.id = b.id)) = false) := hid
    have e1 : P.couldE x b 0 = 0 := by rw [P.couldE, if_pos rfl, if_pos HK0.out, if_neg (by simp [hid])]
    have HOK : Aside (ok = true ↔ P.SailE (P.withB x b) 0) := HNO.out.2 e1
    rw [e1]
    clear hid hbt
    rw [e4] at L3 ⊢
    rw [e3]
    clear e1 e3 e4 HNO
    obtain ⟨d0, d1, d2, d3, d4, d5, d6, d7, d8, d9, d10, d11, d12⟩ := HX.out
    obtain ⟨z0, z1, z2, z3, z4, z5, z6, z7, z8, z9, z10⟩ := HB.out
    go_wp2_with fail
    refine (refBk_any x.s a.v b fo fc _ (hs.below HW.out).ship (SlAt.below Fo.REnt.mono hf HW.out) H0.out).mono ?_
    rintro e w5 ⟨rfl, hb5⟩
    replace HW := aW HW hb5
    replace HX := aX HX hb5
    replace HB := aB HB hb5
    replace L1 := aI L1 hb5
    replace L2 := aE L2 hb5
    replace L3 := aS L3 hb5
    clear d0 d1 d2 d3 d4 d5 d6 d7 d8 d9 d10 d11 d12 z0 z1 z2 z3 z4 z5 z6 z7 z8 z9 z10
    clear hb5
    rw [HK0.out]
    obtain ⟨d0, d1, d2, d3, d4, d5, d6, d7, d8, d9, d10, d11, d12⟩ := HX.out
    obtain ⟨z0, z1, z2, z3, z4, z5, z6, z7, z8, z9, z10⟩ := HB.out
    go_wp2_with fail
    refine (bookingAt_any x a b.id _ (hs.below HW.out)).mono ?_
    rintro e w6 ⟨rfl, hb6⟩
    replace HW := aW HW hb6
    replace HX := aX HX hb6
    replace HB := aB HB hb6
    replace L1 := aI L1 hb6
    replace L2 := aE L2 hb6
    replace L3 := aS L3 hb6
    clear d0 d1 d2 d3 d4 d5 d6 d7 d8 d9 d10 d11 d12 z0 z1 z2 z3 z4 z5 z6 z7 z8 z9 z10
    clear hb6
    rw [HBT.out]
    obtain ⟨d0, d1, d2, d3, d4, d5, d6, d7, d8, d9, d10, d11, d12⟩ := HX.out
    obtain ⟨z0, z1, z2, z3, z4, z5, z6, z7, z8, z9, z10⟩ := HB.out
    go_wp2_with fail
    refine (promisesOf_any x a _ (hs.below HW.out) H0.out HBK.out h16).mono ?_
    rintro e w7 ⟨v5, v6, rfl, own5, own6, hb7⟩
    replace HW := aW HW hb7
    replace HX := aX HX hb7
    replace HB := aB HB hb7
    replace L1 := aI L1 hb7
    replace L2 := aE L2 hb7
    replace L3 := aS L3 hb7
    clear d0 d1 d2 d3 d4 d5 d6 d7 d8 d9 d10 d11 d12 z0 z1 z2 z3 z4 z5 z6 z7 z8 z9 z10
    obtain ⟨ao5, cap5, rfl, l5⟩ := OwnJ.at own5
    obtain ⟨ao6, cap6, rfl, l6⟩ := OwnC.at cellsG_len own6
    have L5 : Aside (IntsAt w7 ao5 cap5 (P.pids x.bks)) := l5
    have L6 : Aside (Ma.EdgesAt w7 ao6 cap6 (P.pedg x.s x.bks 0 x.bks)) := l6
    clear own5 own6 l5 l6 hb7
    generalize P.pids x.bks = I0 at L1 L5 ⊢
    generalize P.pedg x.s x.bks 0 x.bks = E0 at L2 L6 ⊢
    obtain ⟨d0, d1, d2, d3, d4, d5, d6, d7, d8, d9, d10, d11, d12⟩ := HX.out
    obtain ⟨z0, z1, z2, z3, z4, z5, z6, z7, z8, z9, z10⟩ := HB.out
    go_wp2_with fail
    refine (spansOf_any x.s.legs a.ao a.cap x.bks c _ (SlAt.below RBk.mono hs.bks HW.out) HSL.out HCH.out).mono ?_
    rintro e w8 ⟨v7, rfl, own7, hb8⟩
    replace HW := aW HW hb8
    replace HX := aX HX hb8
    replace HB := aB HB hb8
    replace L1 := aI L1 hb8
    replace L2 := aE L2 hb8
    replace L3 := aS L3 hb8
    replace L5 := aI L5 hb8
    replace L6 := aE L6 hb8
    clear d0 d1 d2 d3 d4 d5 d6 d7 d8 d9 d10 d11 d12 z0 z1 z2 z3 z4 z5 z6 z7 z8 z9 z10
    generalize P.addsL x.s.legs [] (P.mine c x.bks) = AL at own7 HCAL L3 ⊢
    obtain ⟨ao7, cap7, rfl, l7⟩ := Sp.Own.at own7
    have L7 : Aside (Sp.SpAt w8 ao7 cap7 AL) := l7
    clear own7 l7 hb8
    obtain ⟨d0, d1, d2, d3, d4, d5, d6, d7, d8, d9, d10, d11, d12⟩ := HX.out
    obtain ⟨z0, z1, z2, z3, z4, z5, z6, z7, z8, z9, z10⟩ := HB.out
    go_wp2_with fail
    refine (Sp.freeOf_any ao7 cap7 AL x.s.legs _ L7.out HCAL.out).mono ?_
    rintro e w9 ⟨v8, rfl, own8, hb9⟩
    replace HW := aW HW hb9
    replace HX := aX HX hb9
    replace HB := aB HB hb9
    replace L1 := aI L1 hb9
    replace L2 := aE L2 hb9
    replace L3 := aS L3 hb9
    replace L5 := aI L5 hb9
    replace L6 := aE L6 hb9
    clear d0 d1 d2 d3 d4 d5 d6 d7 d8 d9 d10 d11 d12 z0 z1 z2 z3 z4 z5 z6 z7 z8 z9 z10
    obtain ⟨ao8, cap8, rfl, l8⟩ := Sp.Own.at own8
    have L8 : Aside (Sp.SpAt w9 ao8 cap8 (Sp.P.free AL x.s.legs)) := l8
    clear own8 l8 hb9 L7
    generalize Sp.P.free AL x.s.legs = F0 at L3 L8 ⊢
    obtain ⟨d0, d1, d2, d3, d4, d5, d6, d7, d8, d9, d10, d11, d12⟩ := HX.out
    obtain ⟨z0, z1, z2, z3, z4, z5, z6, z7, z8, z9, z10⟩ := HB.out
    go_wp2_with fail
    refine (HWB.out x a b fo fc _ (hs.below HW.out) (SlAt.below Fo.REnt.mono hf HW.out) HR.out HID.out).mono ?_
    rintro e wa ⟨a', rfl, s', hba⟩
    replace HW := aW HW hba
    replace HX := aX HX hba
    replace HB := aB HB hba
    replace L1 := aI L1 hba
    replace L2 := aE L2 hba
    replace L3 := aS L3 hba
    replace L5 := aI L5 hba
    replace L6 := aE L6 hba
    replace L8 := aS L8 hba
    clear d0 d1 d2 d3 d4 d5 d6 d7 d8 d9 d10 d11 d12 z0 z1 z2 z3 z4 z5 z6 z7 z8 z9 z10
    go_wp2_with fail
    refine (refSail_any (P.withB x b) a' _ s').mono ?_
    rintro e wg ⟨rg, rfl, hrg, hbg⟩
    replace HW := aW HW hbg
    replace HX := aX HX hbg
    replace HB := aB HB hbg
    replace L1 := aI L1 hbg
    replace L2 := aE L2 hbg
    replace L3 := aS L3 hbg
    replace L5 := aI L5 hbg
    replace L6 := aE L6 hbg
    replace L8 := aS L8 hbg
    have hrk : (rg == 0) = ok := by
      rw [Bool.eq_iff_iff, HOK.out, beq_iff_eq]
      exact ⟨fun h => by rw [h] at hrg; exact hrg, fun h => SailE.one hrg h⟩
    clear hrg hbg s' hba HOK
    go_wp2_with fail
    refine (stockBegun_any _).mono ?_
    rintro e wb ⟨rfl, hbb⟩
    replace HW := aW HW hbb
    replace HX := aX HX hbb
    replace HB := aB HB hbb
    replace L1 := aI L1 hbb
    replace L2 := aE L2 hbb
    replace L3 := aS L3 hbb
    replace L5 := aI L5 hbb
    replace L6 := aE L6 hbb
    replace L8 := aS L8 hbb
    clear hbb
    obtain ⟨d0, d1, d2, d3, d4, d5, d6, d7, d8, d9, d10, d11, d12⟩ := HX.out
    obtain ⟨z0, z1, z2, z3, z4, z5, z6, z7, z8, z9, z10⟩ := HB.out
    go_wp2_with fail
    refine (stockCheck_any x a _ (hs.below HW.out)).mono ?_
    rintro e wc ⟨rc, rfl, hrc, hbc⟩
    replace HW := aW HW hbc
    replace HX := aX HX hbc
    replace HB := aB HB hbc
    replace L1 := aI L1 hbc
    replace L2 := aE L2 hbc
    replace L3 := aS L3 hbc
    replace L5 := aI L5 hbc
    replace L6 := aE L6 hbc
    replace L8 := aS L8 hbc
    clear d0 d1 d2 d3 d4 d5 d6 d7 d8 d9 d10 d11 d12 z0 z1 z2 z3 z4 z5 z6 z7 z8 z9 z10
    obtain hrr := SailE.one hrc HR.out
    rw [hrr]
    clear hrc hbc hrr
    go_wp2_with fail
    refine (Ma.intsAre_any _ _ _ _ I0 I0 0 0 _ L1.out L5.out).mono ?_
    rintro e wd ⟨rfl, hbd⟩
    replace HW := aW HW hbd
    replace HX := aX HX hbd
    replace HB := aB HB hbd
    replace L1 := aI L1 hbd
    replace L2 := aE L2 hbd
    replace L3 := aS L3 hbd
    replace L5 := aI L5 hbd
    replace L6 := aE L6 hbd
    replace L8 := aS L8 hbd
    rw [show (decide ((0 : Int) = 0) && decide (I0 = Ma.P.wantI 0 I0)) = true by simp [Ma.P.wantI]]
    go_wp2_with fail
    refine (sameEdges_any _ _ _ _ E0 E0 _ L2.out L6.out).mono ?_
    rintro e we ⟨rfl, hbe⟩
    replace HW := aW HW hbe
    replace HX := aX HX hbe
    replace HB := aB HB hbe
    replace L1 := aI L1 hbe
    replace L2 := aE L2 hbe
    replace L3 := aS L3 hbe
    replace L5 := aI L5 hbe
    replace L6 := aE L6 hbe
    replace L8 := aS L8 hbe
    rw [show decide (E0 = E0) = true by simp]
    go_wp2_with fail
    refine (Sp.spansAre_any _ _ _ _ F0 F0 0 _ L3.out L8.out (by simp)).mono ?_
    rintro e wf ⟨rfl, hbf⟩
    replace HW := aW HW hbf
    cases ok
    all_goals
      go_wp2
      go_ret
      exact ⟨rfl, HW.out⟩
  · have e3 : P.freeE x 0 c = 0 := by rw [P.freeE, if_pos rfl, if_pos (cabB_in (by omega) (by omega))]
    have e4 : P.freeL x 0 c = Sp.P.free (P.addsL x.s.legs [] (P.mine c x.bks)) x.s.legs := by rw [P.freeL, if_pos e3]
    have HCAL : Aside (Sp.P.calendar (P.addsL x.s.legs [] (P.mine c x.bks)) x.s.legs = 0) := HCL.out ⟨by omega, by omega⟩
    have hbt : (0 : Int) ≤ P.bat b.id 0 x.bks := bat_any.1 hid
    have e1 : P.couldE x b 0 = 6 := by rw [P.couldE, if_pos rfl, if_pos HK0.out, if_pos hid]
    have e2 : ok = false := HNO.out.1 (by rw [e1]; decide)
    rw [e1, e2]
    clear hid
    rw [e4] at L3 ⊢
    rw [e3]
    clear e1 e3 e4 HNO e2
    obtain ⟨d0, d1, d2, d3, d4, d5, d6, d7, d8, d9, d10, d11, d12⟩ := HX.out
    obtain ⟨z0, z1, z2, z3, z4, z5, z6, z7, z8, z9, z10⟩ := HB.out
    go_wp2_with fail
    refine (refBk_any x.s a.v b fo fc _ (hs.below HW.out).ship (SlAt.below Fo.REnt.mono hf HW.out) H0.out).mono ?_
    rintro e w5 ⟨rfl, hb5⟩
    replace HW := aW HW hb5
    replace HX := aX HX hb5
    replace HB := aB HB hb5
    replace L1 := aI L1 hb5
    replace L2 := aE L2 hb5
    replace L3 := aS L3 hb5
    clear d0 d1 d2 d3 d4 d5 d6 d7 d8 d9 d10 d11 d12 z0 z1 z2 z3 z4 z5 z6 z7 z8 z9 z10
    clear hb5
    rw [HK0.out]
    obtain ⟨d0, d1, d2, d3, d4, d5, d6, d7, d8, d9, d10, d11, d12⟩ := HX.out
    obtain ⟨z0, z1, z2, z3, z4, z5, z6, z7, z8, z9, z10⟩ := HB.out
    go_wp2_with fail
    refine (bookingAt_any x a b.id _ (hs.below HW.out)).mono ?_
    rintro e w6 ⟨rfl, hb6⟩
    replace HW := aW HW hb6
    replace HX := aX HX hb6
    replace HB := aB HB hb6
    replace L1 := aI L1 hb6
    replace L2 := aE L2 hb6
    replace L3 := aS L3 hb6
    clear d0 d1 d2 d3 d4 d5 d6 d7 d8 d9 d10 d11 d12 z0 z1 z2 z3 z4 z5 z6 z7 z8 z9 z10
    clear hb6
    obtain ⟨d0, d1, d2, d3, d4, d5, d6, d7, d8, d9, d10, d11, d12⟩ := HX.out
    obtain ⟨z0, z1, z2, z3, z4, z5, z6, z7, z8, z9, z10⟩ := HB.out
    go_wp2_with fail
    refine (promisesOf_any x a _ (hs.below HW.out) H0.out HBK.out h16).mono ?_
    rintro e w7 ⟨v5, v6, rfl, own5, own6, hb7⟩
    replace HW := aW HW hb7
    replace HX := aX HX hb7
    replace HB := aB HB hb7
    replace L1 := aI L1 hb7
    replace L2 := aE L2 hb7
    replace L3 := aS L3 hb7
    clear d0 d1 d2 d3 d4 d5 d6 d7 d8 d9 d10 d11 d12 z0 z1 z2 z3 z4 z5 z6 z7 z8 z9 z10
    obtain ⟨ao5, cap5, rfl, l5⟩ := OwnJ.at own5
    obtain ⟨ao6, cap6, rfl, l6⟩ := OwnC.at cellsG_len own6
    have L5 : Aside (IntsAt w7 ao5 cap5 (P.pids x.bks)) := l5
    have L6 : Aside (Ma.EdgesAt w7 ao6 cap6 (P.pedg x.s x.bks 0 x.bks)) := l6
    clear own5 own6 l5 l6 hb7
    generalize P.pids x.bks = I0 at L1 L5 ⊢
    generalize P.pedg x.s x.bks 0 x.bks = E0 at L2 L6 ⊢
    obtain ⟨d0, d1, d2, d3, d4, d5, d6, d7, d8, d9, d10, d11, d12⟩ := HX.out
    obtain ⟨z0, z1, z2, z3, z4, z5, z6, z7, z8, z9, z10⟩ := HB.out
    go_wp2_with fail
    refine (spansOf_any x.s.legs a.ao a.cap x.bks c _ (SlAt.below RBk.mono hs.bks HW.out) HSL.out HCH.out).mono ?_
    rintro e w8 ⟨v7, rfl, own7, hb8⟩
    replace HW := aW HW hb8
    replace HX := aX HX hb8
    replace HB := aB HB hb8
    replace L1 := aI L1 hb8
    replace L2 := aE L2 hb8
    replace L3 := aS L3 hb8
    replace L5 := aI L5 hb8
    replace L6 := aE L6 hb8
    clear d0 d1 d2 d3 d4 d5 d6 d7 d8 d9 d10 d11 d12 z0 z1 z2 z3 z4 z5 z6 z7 z8 z9 z10
    generalize P.addsL x.s.legs [] (P.mine c x.bks) = AL at own7 HCAL L3 ⊢
    obtain ⟨ao7, cap7, rfl, l7⟩ := Sp.Own.at own7
    have L7 : Aside (Sp.SpAt w8 ao7 cap7 AL) := l7
    clear own7 l7 hb8
    obtain ⟨d0, d1, d2, d3, d4, d5, d6, d7, d8, d9, d10, d11, d12⟩ := HX.out
    obtain ⟨z0, z1, z2, z3, z4, z5, z6, z7, z8, z9, z10⟩ := HB.out
    go_wp2_with fail
    refine (Sp.freeOf_any ao7 cap7 AL x.s.legs _ L7.out HCAL.out).mono ?_
    rintro e w9 ⟨v8, rfl, own8, hb9⟩
    replace HW := aW HW hb9
    replace HX := aX HX hb9
    replace HB := aB HB hb9
    replace L1 := aI L1 hb9
    replace L2 := aE L2 hb9
    replace L3 := aS L3 hb9
    replace L5 := aI L5 hb9
    replace L6 := aE L6 hb9
    clear d0 d1 d2 d3 d4 d5 d6 d7 d8 d9 d10 d11 d12 z0 z1 z2 z3 z4 z5 z6 z7 z8 z9 z10
    obtain ⟨ao8, cap8, rfl, l8⟩ := Sp.Own.at own8
    have L8 : Aside (Sp.SpAt w9 ao8 cap8 (Sp.P.free AL x.s.legs)) := l8
    clear own8 l8 hb9 L7
    generalize Sp.P.free AL x.s.legs = F0 at L3 L8 ⊢
    go_wp2_with fail
    refine (stockBegun_any _).mono ?_
    rintro e wb ⟨rfl, hbb⟩
    replace HW := aW HW hbb
    replace HX := aX HX hbb
    replace HB := aB HB hbb
    replace L1 := aI L1 hbb
    replace L2 := aE L2 hbb
    replace L3 := aS L3 hbb
    replace L5 := aI L5 hbb
    replace L6 := aE L6 hbb
    replace L8 := aS L8 hbb
    clear hbb
    obtain ⟨d0, d1, d2, d3, d4, d5, d6, d7, d8, d9, d10, d11, d12⟩ := HX.out
    obtain ⟨z0, z1, z2, z3, z4, z5, z6, z7, z8, z9, z10⟩ := HB.out
    go_wp2_with fail
    refine (stockCheck_any x a _ (hs.below HW.out)).mono ?_
    rintro e wc ⟨rc, rfl, hrc, hbc⟩
    replace HW := aW HW hbc
    replace HX := aX HX hbc
    replace HB := aB HB hbc
    replace L1 := aI L1 hbc
    replace L2 := aE L2 hbc
    replace L3 := aS L3 hbc
    replace L5 := aI L5 hbc
    replace L6 := aE L6 hbc
    replace L8 := aS L8 hbc
    clear d0 d1 d2 d3 d4 d5 d6 d7 d8 d9 d10 d11 d12 z0 z1 z2 z3 z4 z5 z6 z7 z8 z9 z10
    obtain hrr := SailE.one hrc HR.out
    rw [hrr]
    clear hrc hbc hrr
    go_wp2_with fail
    refine (Ma.intsAre_any _ _ _ _ I0 I0 0 0 _ L1.out L5.out).mono ?_
    rintro e wd ⟨rfl, hbd⟩
    replace HW := aW HW hbd
    replace HX := aX HX hbd
    replace HB := aB HB hbd
    replace L1 := aI L1 hbd
    replace L2 := aE L2 hbd
    replace L3 := aS L3 hbd
    replace L5 := aI L5 hbd
    replace L6 := aE L6 hbd
    replace L8 := aS L8 hbd
    rw [show (decide ((0 : Int) = 0) && decide (I0 = Ma.P.wantI 0 I0)) = true by simp [Ma.P.wantI]]
    go_wp2_with fail
    refine (sameEdges_any _ _ _ _ E0 E0 _ L2.out L6.out).mono ?_
    rintro e we ⟨rfl, hbe⟩
    replace HW := aW HW hbe
    replace HX := aX HX hbe
    replace HB := aB HB hbe
    replace L1 := aI L1 hbe
    replace L2 := aE L2 hbe
    replace L3 := aS L3 hbe
    replace L5 := aI L5 hbe
    replace L6 := aE L6 hbe
    replace L8 := aS L8 hbe
    rw [show decide (E0 = E0) = true by simp]
    go_wp2_with fail
    refine (Sp.spansAre_any _ _ _ _ F0 F0 0 _ L3.out L8.out (by simp)).mono ?_
    rintro e wf ⟨rfl, hbf⟩
    replace HW := aW HW hbf
    go_wp2
    go_ret
    exact ⟨rfl, HW.out⟩

theorem stockTells_over (hWB : WithOk) (x : Sail) (a : SailA) (c : Int) (b : Bkg) (fo : Option Addr) (fc : Nat) (w : World) (hs : SailAt w x a) (hf : Fo.EntsAt w fo fc b.fol) :
    Calls Tryz.prog 4 #[V.sail x a, .int .i64 c, V.bk b fo fc] w fun e w' => e = .returned (.bool true) ∧ Below w.heap.size w w' := by
  obtain ⟨r, hr⟩ := sail_total x
  by_cases hz : r = 0
  · subst hz
    by_cases hc1 : c < 0
    · exact stockTells_neg hWB x a c b fo fc w hs hf hr hc1
    · by_cases hc2 : (x.s.bs.length : Int) ≤ c
      · exact stockTells_big hWB x a c b fo fc w hs hf hr hc1 hc2
      · exact stockTells_in hWB x a c b fo fc w hs hf hr hc1 hc2
  · exact stockTells_bad hWB x a c b fo fc w hs hf r hr hz

end Go.Proofs.YtpjfpgimpgmhcadGreat.St
