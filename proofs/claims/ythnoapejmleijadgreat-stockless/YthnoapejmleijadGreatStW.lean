/- The walk of StockLess. -/
import Derived.Test.YthnoapejmleijadGreatStV
namespace Go.Proofs.YthnoapejmleijadGreat.St
open Go.RowKit Bk
set_option linter.unusedSimpArgs false
set_option linter.unusedVariables false
set_option maxRecDepth 10000

set_option maxHeartbeats 4000000 in
theorem stockLess_out (x : Sail) (a : SailA) (n : Int) (w : World) (hs : SailAt w x a) (ho : ¬ (0 ≤ n ∧ n < x.bks.length)) :
    Calls Tryz.prog 3 #[V.sail x a, .int .i64 n] w fun e w' => e = .returned (.bool true) ∧ Below w.heap.size w w' := by
  have hsx := SBox.new w x a
  have hsb := sail_below w x a
  have hle := hs.bks.le
  have hmx := hs.bks.max
  unfold maxLen at hmx
  go_enter Tryz.func3, Tryz.ntmps3
  go_wp2_with fail
  refine (stockBegun_any _).mono ?_
  rintro e w3 ⟨rfl, hb3⟩
  have HX3 : Aside (SBox w3 w.heap.size x a) := hsx.below hb3
  have hB3 := bvia hsb hb3
  obtain ⟨d0, d1, d2, d3, d4, d5, d6, d7, d8, d9, d10, d11, d12⟩ := HX3.out
  go_wp2_with fail
  refine (stockCheck_any x a _ (hs.below hB3)).mono ?_
  rintro e w4 ⟨r, rfl, hr, hb4⟩
  have hB4 := bvia hB3 hb4
  clear d0 d1 d2 d3 d4 d5 d6 d7 d8 d9 d10 d11 d12
  have d11 := (HX3.out.below hb4).c11
  clear hr hsx hsb
  cases hz : (r != 0)
  · obtain rfl : r = 0 := by simpa using hz
    by_cases hn : n < 0
    · clear ho
      go_wp2
      go_ret
      exact ⟨rfl, hB4⟩
    · have hn2 : (x.bks.length : Int) ≤ n := by omega
      clear ho
      go_wp2
      go_ret
      exact ⟨rfl, hB4⟩
  · clear ho
    go_wp2
    go_ret
    exact ⟨rfl, hB4⟩

theorem set_keep {U : World} {g b i k : Nat} {v u : Value} (hb : b ≠ g) (h : U.cell? ⟨b, k, none⟩ = some v) : (U.setCell ⟨g, i, none⟩ u).cell? ⟨b, k, none⟩ = some v := by
  rw [World.cell?_setCell_other (h := by simp [hb])]
  exact h
theorem set_keep' {U : World} {g i k : Nat} {v u : Value} (hb : k ≠ i) (h : U.cell? ⟨g, k, none⟩ = some v) : (U.setCell ⟨g, i, none⟩ u).cell? ⟨g, k, none⟩ = some v := by
  rw [World.cell?_setCell_other (h := by simp [hb])]
  exact h

set_option maxHeartbeats 16000000 in
theorem stockLess_in (x : Sail) (a : SailA) (k : Nat) (w : World) (hs : SailAt w x a) (A B : List BkV) (y : Bkg) (fo : Option Addr) (fc : Nat) (hlv : BkVsAt w a.ao a.cap (A ++ (y, fo, fc) :: B)) (hl : (A ++ (y, fo, fc) :: B).map (·.1) = x.bks) (hA : A.length = k) :
    Calls Tryz.prog 3 #[V.sail x a, .int .i64 k] w fun e w' => e = .returned (.bool true) ∧ Below w.heap.size w w' := by
  have hsx := SBox.new w x a
  have hsb := sail_below w x a
  have hle := hs.bks.le
  have hmx := hs.bks.max
  unfold maxLen at hmx
  obtain ⟨less, hless⟩ : ∃ less, (A ++ B).map (·.1) = less := ⟨_, rfl⟩
  have el : x.bks = A.map (·.1) ++ y :: B.map (·.1) := by rw [← hl]; simp
  have els : less = A.map (·.1) ++ B.map (·.1) := by rw [← hless]; simp
  have hlen : x.bks.length = k + (B.length + 1) := by rw [el, ← hA]; simp
  have hlens : less.length = k + B.length := by rw [els, ← hA]; simp
  obtain ⟨b, off, y', hao, hbw, hd, hy, hfy⟩ := BkVsAt.get hlv (Below.refl _ w) k (by rw [List.length_append, List.length_cons]; omega)
  obtain rfl : y' = (y, fo, fc) := by
    rw [List.drop_append_of_le_length (by omega), List.drop_of_length_le (by omega)] at hd
    simp at hd
    exact hd.1.symm
  simp only at hy hfy
  have HLS : Aside (P.SailE x 0 → P.SailE (P.setB x less) 0 ∧ P.couldE (P.setB x less) y 0 = 0 ∧ P.withB (P.setB x less) y = x) := fun h => by
    rw [els]
    exact sail_less el h
  have HP1 : Aside (SlAt (RC cellsV) 11 w (some ⟨b, off, none⟩) a.cap A) := by
    have := SlAt.part hlv.plain
    rw [hao] at this
    exact this
  have HP2 : Aside (SlAt (RC cellsV) 11 w (tailOf 11 (some ⟨b, off, none⟩) a.cap (k + 1)) (a.cap - (k + 1)) B) := by
    have h : SlAt (RC cellsV) 11 w a.ao a.cap ((A ++ [(y, fo, fc)]) ++ B) := by simpa using hlv.plain
    have := SlAt.rest h
    rw [List.length_append, hA, hao] at this
    exact this
  have HEN : Aside (∀ z ∈ A ++ B, Fo.EntsAt w z.2.1 z.2.2 z.1.fol) := fun z hz => hlv.ents z (by simp at hz ⊢; rcases hz with h | h <;> simp [h])
  have HMP : Aside ((A ++ B).map (·.1) = less) := hless
  have HA : Aside (A.length = k) := hA
  have HBl : Aside (B.length = x.bks.length - (k + 1)) := by show _ = _; omega
  have HAB : Aside ((A ++ B).length = less.length) := by show _ = _; rw [← hless]; simp
  have HY : Aside (BkAt w b (off + k * 11) y fo fc) := hy
  have HFY : Aside (Fo.EntsAt w fo fc y.fol) := hfy
  have hkl : (k : Int) < x.bks.length := by omega
  have hkn : k < x.bks.length := by omega
  have hk0 : (0 : Int) ≤ (k : Int) := by omega
  have hnk : ¬ (k : Int) < 0 := by omega
  have hnl : ¬ (x.bks.length : Int) ≤ k := by omega
  have hhd := fun (wx : World) => run_headB (some ⟨b, off, none⟩) x.bks.length a.cap k (by omega) wx
  have htl : ∀ wx : World, (Instr.slice 30 (.slice (some ⟨b, off, none⟩) x.bks.length a.cap) (some (.int .i64 ((k : Int) + 1))) none none).run Tryz.prog wx = .ok (.slice (tailOf 11 (some ⟨b, off, none⟩) a.cap (k + 1)) (x.bks.length - (k + 1)) (a.cap - (k + 1))) wx := fun wx => by
    have := run_tailB (some ⟨b, off, none⟩) x.bks.length a.cap (k + 1) (by omega) wx
    have ec : ((k + 1 : Nat) : Int) = (k : Int) + 1 := by omega
    rwa [ec] at this
  generalize hta : tailOf 11 (some ⟨b, off, none⟩) a.cap (k + 1) = tao at HP2 htl
  generalize htb : x.bks.length - (k + 1) = kB at HBl htl
  generalize htc : a.cap - (k + 1) = tcap at HP2 htl
  have hw1 : x.bks.length ≤ 16 → IntKind.i64.wrap ((k : Int) + 1) = (k : Int) + 1 := fun h => by rw [IntKind.wrap_i64]; omega
  have hL16 : x.bks.length ≤ 16 → less.length ≤ 16 := fun h => by omega
  have hk16 : x.bks.length ≤ 16 → k ≤ 16 := fun h => by omega
  have HAO : Aside (a.ao = some ⟨b, off, none⟩) := hao
  clear hta htb htc hd hless hl hlv hy hA el els hlen hlens hfy hao
  go_enter Tryz.func3, Tryz.ntmps3
  go_wp2_with fail
  refine (stockBegun_any _).mono ?_
  rintro e w3 ⟨rfl, hb3⟩
  have HX3 : Aside (SBox w3 w.heap.size x a) := hsx.below hb3
  have hB3 := bvia hsb hb3
  obtain ⟨d0, d1, d2, d3, d4, d5, d6, d7, d8, d9, d10, d11, d12⟩ := HX3.out
  go_wp2_with fail
  refine (stockCheck_any x a _ (hs.below hB3)).mono ?_
  rintro e w4 ⟨r, rfl, hr, hb4⟩
  have hB4 := bvia hB3 hb4
  clear d0 d1 d2 d3 d4 d5 d6 d7 d8 d9 d10 d11 d12 hsx hsb hb3
  have HX4 : Aside (SBox w4 w.heap.size x a) := HX3.out.below hb4
  clear HX3 hB3 hb4
  cases hz : (r != 0)
  rotate_left
  · clear hr
    have d11 := HX4.out.c11
    go_wp2
    go_ret
    exact ⟨rfl, hB4⟩
  obtain rfl : r = 0 := by simpa using hz
  have HE : Aside (P.SailE x 0) := hr
  obtain ⟨_, _, h0, _, h16, _⟩ := sail_ok hr
  obtain ⟨hS', hC', hW'⟩ := HLS.out hr
  have HS' : Aside (P.SailE (P.setB x less) 0) := hS'
  have HC' : Aside (P.couldE (P.setB x less) y 0 = 0) := hC'
  have HW' : Aside (P.withB (P.setB x less) y = x) := hW'
  have hw1 := hw1 h16
  have hL16 := hL16 h16
  have hk16 := hk16 h16
  clear hr hz h0 hS' hC' hW' HLS
  obtain ⟨d0, d1, d2, d3, d4, d5, d6, d7, d8, d9, d10, d11, d12⟩ := HX4.out
  have hlt4 : w.heap.size < w4.heap.size := HX4.out.lt
  have hsb4 := sail_below w4 x a
  have HX5 : Aside (SBox (W.sail w4 x a) w.heap.size x a) := HX4.out.below hsb4
  have HZ5 : Aside (SBox (W.sail w4 x a) w4.heap.size x a) := SBox.new w4 x a
  have HF5 : Aside ((W.sail w4 x a).frozen? ⟨w4.heap.size, 11, none⟩ = false) := sail_frozen w4 x a 11
  have HB5 : Aside (Below w.heap.size w (W.sail w4 x a)) := bvia hB4 hsb4
  go_wp2_with fail
  change Code.wp Tryz.prog _ _ _ (W.sail w4 x a)
  generalize W.sail w4 x a = w2 at HX5 HZ5 HF5 HB5 ⊢
  have hlt5 : w4.heap.size < w2.heap.size := HZ5.out.lt
  have hB2 := HB5.out
  have HQ1 : Aside (SlAt (RC cellsV) 11 w2 (some ⟨b, off, none⟩) a.cap A) := SlAt.below (RC.mono _) HP1.out hB2
  have HQ2 : Aside (SlAt (RC cellsV) 11 w2 tao tcap B) := SlAt.below (RC.mono _) HP2.out hB2
  have c11 := HX5.out.c11
  rw [HAO.out] at c11
  have hne1 : w.heap.size ≠ w4.heap.size := by omega
  clear d0 d1 d2 d3 d4 d5 d6 d7 d8 d9 d10 d11 d12 hsb4 HP1 HP2 HX4 hB4
  go_region_held3 (fun u => u.cell? ⟨w.heap.size, 11, none⟩ = some (.slice (some ⟨b, off, none⟩) x.bks.length a.cap))
    (first
      | with_reducible exact set_keep hne1 q11
      | with_reducible exact q11
      | with_reducible exact p11
      | with_reducible exact c11
      | go_keep)
    (first
      | (refine step_of' (by rfl) (wpW_many (cells := cellsV) (size := 11) (base := w2.heap.size) Tryz.infoBk Tryz.underlying30 rfl (by decide) cellsV_len cellsV_one _ _ (by rfl) (.slice (some ⟨w2.heap.size, 0, none⟩) 0 0) [] A A k k rfl HA.out HA.out (some ⟨b, off, none⟩) a.cap (by rfl) (OwnC.below (OwnC.empty (cells := cellsV) (size := 11) (e := 42) w2 w2.heap.size (Nat.le_refl _)) (by go_grown)) (by rfl) (SlAt.below (RC.mono _) HQ1.out (by go_grown)) (by unfold maxLen; omega) (by omega) (by first | (simp; done) | (simp; omega)) ?_); intro ao4 cap4 u4 own4 gr4; have bW : Below w2.heap.size w2 u4 := (OwnC.grown (w := w2) (by go_grown) (OwnC.below (OwnC.empty (cells := cellsV) (size := 11) (e := 42) w2 w2.heap.size (Nat.le_refl _)) (by go_grown)) (Nat.le_refl _) gr4); have p11 := cellIn bW c11)
      | (refine step_of' (by rfl) (wpW_many (cells := cellsV) (size := 11) (base := w2.heap.size) Tryz.infoBk Tryz.underlying30 rfl (by decide) cellsV_len cellsV_one _ _ (by rfl) (.slice ao4 k cap4) A B (A ++ B) kB less.length rfl HBl.out HAB.out tao tcap (by rfl) (by first | exact own4 | exact OwnC.below own4 (by go_grown)) (by rfl) (SlAt.below (RC.mono _) HQ2.out (by first | exact bW | exact bvia bW (by go_grown))) (by unfold maxLen; omega) (by omega) (by first | exact bW.size | (have := bW.size; simp; omega)) ?_); intro ao5 cap5 u5 own5 gr5; have bW2 : Below w2.heap.size w2 u5 := (by first | exact OwnC.grown bW own4 (Nat.le_refl _) gr5 | exact OwnC.grown (bvia bW (by go_grown)) (OwnC.below own4 (by go_grown)) (Nat.le_refl _) gr5); have q11 := cellIn bW2 c11; have g11 := cellIn bW2 HZ5.out.c11; have fz11 : u5.frozen? ⟨w4.heap.size, 11, none⟩ = false := (by rw [bW2.frozen (p := ⟨w4.heap.size, 11, none⟩) hlt5]; exact HF5.out)))
  have hB6' := (bvia hB2 bW2).setCell (p := ⟨w4.heap.size, 11, none⟩) (show w.heap.size ≤ w4.heap.size by omega) (.slice ao5 less.length cap5)
  have own6 : OwnB (u5.setCell ⟨w4.heap.size, 11, none⟩ (.slice ao5 less.length cap5)) w2.heap.size (.slice ao5 less.length cap5) (A ++ B) := OwnC.apart own5 (grown_set u5 w4.heap.size 11 _) (fun r e hv => by cases e; have := (own5.lt _ hv).1; omega)
  have HS6 : Aside (SailAt (u5.setCell ⟨w4.heap.size, 11, none⟩ (.slice ao5 less.length cap5)) (P.setB x less) ⟨a.v, a.lo, a.bo, a.lc, a.bc, ao5, cap5⟩) := by
    refine ⟨(hs.below hB6').ship, (hs.below hB6').fare, ?_⟩
    obtain ⟨ao6, cap6, e6, h6⟩ := OwnC.at cellsV_len own6
    simp only [Value.slice.injEq] at e6
    obtain ⟨rfl, -, rfl⟩ := e6
    have h := BkVsAt.all (bkvs_of h6 (fun z hz => SlAt.below Fo.REnt.mono (HEN.out z hz) hB6'))
    rw [HMP.out] at h
    exact h
  have HD6 : Aside ((u5.setCell ⟨w4.heap.size, 11, none⟩ (.slice ao5 less.length cap5)).cell? ⟨w4.heap.size, 0, none⟩ = some (.int .i64 x.s.legs) ∧ (u5.setCell ⟨w4.heap.size, 11, none⟩ (.slice ao5 less.length cap5)).cell? ⟨w4.heap.size, 1, none⟩ = some (.int .i64 x.s.souls) ∧ (u5.setCell ⟨w4.heap.size, 11, none⟩ (.slice ao5 less.length cap5)).cell? ⟨w4.heap.size, 2, none⟩ = some (.slice a.v.cao x.s.cs.length a.v.cc) ∧ (u5.setCell ⟨w4.heap.size, 11, none⟩ (.slice ao5 less.length cap5)).cell? ⟨w4.heap.size, 3, none⟩ = some (.slice a.v.bao x.s.bs.length a.v.bc) ∧ (u5.setCell ⟨w4.heap.size, 11, none⟩ (.slice ao5 less.length cap5)).cell? ⟨w4.heap.size, 4, none⟩ = some (.slice a.lo x.L.length a.lc) ∧ (u5.setCell ⟨w4.heap.size, 11, none⟩ (.slice ao5 less.length cap5)).cell? ⟨w4.heap.size, 5, none⟩ = some (.int .i64 x.al) ∧ (u5.setCell ⟨w4.heap.size, 11, none⟩ (.slice ao5 less.length cap5)).cell? ⟨w4.heap.size, 6, none⟩ = some (.int .i64 x.th) ∧ (u5.setCell ⟨w4.heap.size, 11, none⟩ (.slice ao5 less.length cap5)).cell? ⟨w4.heap.size, 7, none⟩ = some (.slice a.bo x.B.length a.bc) ∧ (u5.setCell ⟨w4.heap.size, 11, none⟩ (.slice ao5 less.length cap5)).cell? ⟨w4.heap.size, 8, none⟩ = some (.int .i64 x.dn) ∧ (u5.setCell ⟨w4.heap.size, 11, none⟩ (.slice ao5 less.length cap5)).cell? ⟨w4.heap.size, 9, none⟩ = some (.int .i64 x.day) ∧ (u5.setCell ⟨w4.heap.size, 11, none⟩ (.slice ao5 less.length cap5)).cell? ⟨w4.heap.size, 10, none⟩ = some (.int .i64 x.lvs) ∧ (u5.setCell ⟨w4.heap.size, 11, none⟩ (.slice ao5 less.length cap5)).cell? ⟨w4.heap.size, 11, none⟩ = some (.slice ao5 less.length cap5) ∧ (u5.setCell ⟨w4.heap.size, 11, none⟩ (.slice ao5 less.length cap5)).cell? ⟨w4.heap.size, 12, none⟩ = some (.bool x.cl)) := by
    obtain ⟨i0, i1, i2, i3, i4, i5, i6, i7, i8, i9, i10, i11, i12⟩ := HZ5.out.below bW2
    exact ⟨set_keep' (by decide) i0, set_keep' (by decide) i1, set_keep' (by decide) i2, set_keep' (by decide) i3, set_keep' (by decide) i4, set_keep' (by decide) i5, set_keep' (by decide) i6, set_keep' (by decide) i7, set_keep' (by decide) i8, set_keep' (by decide) i9, set_keep' (by decide) i10, World.cell?_setCell_same' _ _ _ (by rw [g11]; rfl), set_keep' (by decide) i12⟩
  have HC6 : Aside ((u5.setCell ⟨w4.heap.size, 11, none⟩ (.slice ao5 less.length cap5)).cell? ⟨w.heap.size, 11, none⟩ = some (.slice (some ⟨b, off, none⟩) x.bks.length a.cap)) := set_keep hne1 q11
  have HB6 : Aside (Below w.heap.size w (u5.setCell ⟨w4.heap.size, 11, none⟩ (.slice ao5 less.length cap5))) := hB6'
  clear own4 own5 own6 gr4 gr5 bW bW2 p11 q11 g11 fz11 c11 hB6' HQ1 HQ2 HEN HMP hhd htl
  go_wp2_with fail
  generalize (u5.setCell ⟨w4.heap.size, 11, none⟩ (.slice ao5 less.length cap5)) = w6 at HS6 HD6 HC6 HB6 ⊢
  have HCO : Aside (∀ W, Below w6.heap.size w6 W → Calls Tryz.prog 8 #[.agg #[.int .i64 x.s.legs, .int .i64 x.s.souls, .slice a.v.cao x.s.cs.length a.v.cc, .slice a.v.bao x.s.bs.length a.v.bc, .slice a.lo x.L.length a.lc, .int .i64 x.al, .int .i64 x.th, .slice a.bo x.B.length a.bc, .int .i64 x.dn, .int .i64 x.day, .int .i64 x.lvs, .slice ao5 less.length cap5, .bool x.cl], V.bk y fo fc] W fun e w' => e = .returned (.tuple #[.bool true, .int .i64 0]) ∧ Below W.heap.size W w') := fun W hW => by
    have h := stockCould_any (P.setB x less) ⟨a.v, a.lo, a.bo, a.lc, a.bc, ao5, cap5⟩ y fo fc W (HS6.out.below hW) (SlAt.below Fo.REnt.mono HFY.out (bvia HB6.out hW))
    refine h.mono ?_
    rintro e w' ⟨r, ok, rfl, hr, h1, h2, h3⟩
    obtain rfl := SailE.one hr HS'.out
    have h4 := h2 HC'.out
    rw [HW'.out] at h4
    rw [HC'.out, h4.2 HE.out]
    exact ⟨rfl, h3⟩
  have HCK : Aside (∀ W, Below w6.heap.size w6 W → Calls Tryz.prog 7 #[.agg #[.int .i64 x.s.legs, .int .i64 x.s.souls, .slice a.v.cao x.s.cs.length a.v.cc, .slice a.v.bao x.s.bs.length a.v.bc, .slice a.lo x.L.length a.lc, .int .i64 x.al, .int .i64 x.th, .slice a.bo x.B.length a.bc, .int .i64 x.dn, .int .i64 x.day, .int .i64 x.lvs, .slice ao5 less.length cap5, .bool x.cl]] W fun e w' => e = .returned (.int .i64 0) ∧ Below W.heap.size W w') := fun W hW => by
    have h := stockCheck_any (P.setB x less) ⟨a.v, a.lo, a.bo, a.lc, a.bc, ao5, cap5⟩ W (HS6.out.below hW)
    refine h.mono ?_
    rintro e w' ⟨r, rfl, hr, h3⟩
    obtain rfl := SailE.one hr HS'.out
    exact ⟨rfl, h3⟩
  obtain ⟨d0, d1, d2, d3, d4, d5, d6, d7, d8, d9, d10, d11, d12⟩ := HD6.out
  have c11 := HC6.out
  obtain ⟨y0, y1, y2, y3, y4, y5, y6, y7, y8, y9, y10⟩ := HY.out.below HB6.out
  go_region_held3 (fun u => u.cell? ⟨w.heap.size, 11, none⟩ = some (.slice (some ⟨b, off, none⟩) x.bks.length a.cap) ∧ u.cell? ⟨w4.heap.size, 0, none⟩ = some (.int .i64 x.s.legs) ∧ u.cell? ⟨w4.heap.size, 1, none⟩ = some (.int .i64 x.s.souls) ∧ u.cell? ⟨w4.heap.size, 2, none⟩ = some (.slice a.v.cao x.s.cs.length a.v.cc) ∧ u.cell? ⟨w4.heap.size, 3, none⟩ = some (.slice a.v.bao x.s.bs.length a.v.bc) ∧ u.cell? ⟨w4.heap.size, 4, none⟩ = some (.slice a.lo x.L.length a.lc) ∧ u.cell? ⟨w4.heap.size, 5, none⟩ = some (.int .i64 x.al) ∧ u.cell? ⟨w4.heap.size, 6, none⟩ = some (.int .i64 x.th) ∧ u.cell? ⟨w4.heap.size, 7, none⟩ = some (.slice a.bo x.B.length a.bc) ∧ u.cell? ⟨w4.heap.size, 8, none⟩ = some (.int .i64 x.dn) ∧ u.cell? ⟨w4.heap.size, 9, none⟩ = some (.int .i64 x.day) ∧ u.cell? ⟨w4.heap.size, 10, none⟩ = some (.int .i64 x.lvs) ∧ u.cell? ⟨w4.heap.size, 11, none⟩ = some (.slice ao5 less.length cap5) ∧ u.cell? ⟨w4.heap.size, 12, none⟩ = some (.bool x.cl) ∧ u.cell? ⟨b, off + k * 11, none⟩ = some (.int .i64 y.id) ∧ u.cell? ⟨b, off + k * 11 + 1, none⟩ = some (.int .i64 y.kind) ∧ u.cell? ⟨b, off + k * 11 + 2, none⟩ = some (.int .i64 y.state) ∧ u.cell? ⟨b, off + k * 11 + 3, none⟩ = some (.int .i64 y.guests) ∧ u.cell? ⟨b, off + k * 11 + 4, none⟩ = some (.bool y.level) ∧ u.cell? ⟨b, off + k * 11 + 5, none⟩ = some (.int .i64 y.cabin) ∧ u.cell? ⟨b, off + k * 11 + 6, none⟩ = some (.int .i64 y.cat) ∧ u.cell? ⟨b, off + k * 11 + 7, none⟩ = some (.int .i64 y.frm) ∧ u.cell? ⟨b, off + k * 11 + 8, none⟩ = some (.int .i64 y.to) ∧ u.cell? ⟨b, off + k * 11 + 9, none⟩ = some (.int .i64 y.til) ∧ u.cell? ⟨b, off + k * 11 + 10, none⟩ = some (.slice fo y.fol.length fc))
    (first
      | with_reducible exact ⟨e11, f0, f1, f2, f3, f4, f5, f6, f7, f8, f9, f10, f11, f12, z0, z1, z2, z3, z4, z5, z6, z7, z8, z9, z10⟩
      | with_reducible exact ⟨c11, d0, d1, d2, d3, d4, d5, d6, d7, d8, d9, d10, d11, d12, y0, y1, y2, y3, y4, y5, y6, y7, y8, y9, y10⟩
      | go_keep)
    (first
      | (go_at_call 8; refine (HCO.out _ (by go_grown)).mono ?_; rintro e w7 ⟨rfl, hb7⟩; have bb7 : Below w6.heap.size w6 w7 := bvia (by go_grown) hb7; have e11 := cellIn bb7 c11; have f0 := cellIn bb7 d0; have f1 := cellIn bb7 d1; have f2 := cellIn bb7 d2; have f3 := cellIn bb7 d3; have f4 := cellIn bb7 d4; have f5 := cellIn bb7 d5; have f6 := cellIn bb7 d6; have f7 := cellIn bb7 d7; have f8 := cellIn bb7 d8; have f9 := cellIn bb7 d9; have f10 := cellIn bb7 d10; have f11 := cellIn bb7 d11; have f12 := cellIn bb7 d12; have z0 := cellIn bb7 y0; have z1 := cellIn bb7 y1; have z2 := cellIn bb7 y2; have z3 := cellIn bb7 y3; have z4 := cellIn bb7 y4; have z5 := cellIn bb7 y5; have z6 := cellIn bb7 y6; have z7 := cellIn bb7 y7; have z8 := cellIn bb7 y8; have z9 := cellIn bb7 y9; have z10 := cellIn bb7 y10))
  clear c11 e11 d0 d1 d2 d3 d4 d5 d6 d7 d8 d9 d10 d11 d12 y0 y1 y2 y3 y4 y5 y6 y7 y8 y9 y10 z0 z1 z2 z3 z4 z5 z6 z7 z8 z9 z10
  go_wp2_with fail
  refine (HCK.out _ bb7).mono ?_
  rintro e w8 ⟨rfl, hb8⟩
  have hBf := bvia HB6.out (bvia bb7 hb8)
  go_wp2
  go_ret
  exact ⟨rfl, hBf⟩

theorem stockLess_walk (x : Sail) (a : SailA) (n : Int) (w : World) (hs : SailAt w x a) :
    Calls Tryz.prog 3 #[V.sail x a, .int .i64 n] w fun e w' => e = .returned (.bool true) ∧ Below w.heap.size w w' := by
  by_cases h : 0 ≤ n ∧ n < x.bks.length
  · obtain ⟨k, rfl⟩ : ∃ k : Nat, n = k := ⟨n.toNat, by omega⟩
    obtain ⟨lv, hlv, hl⟩ := BksAt.pick hs.bks
    have hlen : lv.length = x.bks.length := by rw [← hlv]; simp
    have hk : k < lv.length := by omega
    have e : lv.take k ++ (lv[k].1, lv[k].2.1, lv[k].2.2) :: lv.drop (k + 1) = lv := by
      show lv.take k ++ lv[k] :: lv.drop (k + 1) = lv
      rw [← List.drop_eq_getElem_cons hk, List.take_append_drop]
    exact stockLess_in x a k w hs (lv.take k) (lv.drop (k + 1)) lv[k].1 lv[k].2.1 lv[k].2.2 (by rw [e]; exact hl) (by rw [e]; exact hlv) (by rw [List.length_take]; omega)
  · exact stockLess_out x a n w hs h

end Go.Proofs.YthnoapejmleijadGreat.St
