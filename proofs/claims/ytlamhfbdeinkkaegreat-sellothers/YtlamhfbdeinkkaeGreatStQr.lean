/- Package stock: with, Could. -/
import Derived.Test.YtlamhfbdeinkkaeGreatStPr
namespace Go.Proofs.YtlamhfbdeinkkaeGreat.St
open Go.RowKit Bk
set_option linter.unusedSimpArgs false
set_option linter.unusedVariables false
set_option maxRecDepth 10000

set_option maxHeartbeats 400000 in
theorem with1_any (x : Bkg) (xo : Option Addr) (xc : Nat) (G : Nat) (b : Bkg) (fo : Option Addr) (fc : Nat) (w : World) (hG : BBox w G x xo xc) :
    Calls Tryz.prog 157 (#[V.bk b fo fc] ++ #[.pointer (some ⟨G, 0, none⟩)]) w fun e w' => e = .returned (.bool (decide (b.id < x.id))) ∧ Below w.heap.size w w' := by
  show Calls Tryz.prog 157 #[V.bk b fo fc, .pointer (some ⟨G, 0, none⟩)] w _
  have zG := hG.c0
  have hGl : G < w.heap.size := World.block_lt_of_cell? w _ zG
  go_enter Tryz.func157, Tryz.ntmps157
  go_wp2
  go_ret
  exact ⟨rfl, by go_grown⟩
set_option maxHeartbeats 400000 in
theorem with2_any (x : Bkg) (xo : Option Addr) (xc : Nat) (G : Nat) (b : Bkg) (fo : Option Addr) (fc : Nat) (w : World) (hG : BBox w G x xo xc) :
    Calls Tryz.prog 158 (#[V.bk b fo fc] ++ #[.pointer (some ⟨G, 0, none⟩)]) w fun e w' => e = .returned (.bool (decide (x.id < b.id))) ∧ Below w.heap.size w w' := by
  show Calls Tryz.prog 158 #[V.bk b fo fc, .pointer (some ⟨G, 0, none⟩)] w _
  have zG := hG.c0
  have hGl : G < w.heap.size := World.block_lt_of_cell? w _ zG
  go_enter Tryz.func158, Tryz.ntmps158
  go_wp2
  go_ret
  exact ⟨rfl, by go_grown⟩
set_option maxHeartbeats 400000 in
theorem could1_any (x : Bkg) (xo : Option Addr) (xc : Nat) (G : Nat) (b : Bkg) (fo : Option Addr) (fc : Nat) (w : World) (hG : BBox w G x xo xc) :
    Calls Tryz.prog 99 (#[V.bk b fo fc] ++ #[.pointer (some ⟨G, 0, none⟩)]) w fun e w' => e = .returned (.bool (decide (b.id = x.id))) ∧ Below w.heap.size w w' := by
  show Calls Tryz.prog 99 #[V.bk b fo fc, .pointer (some ⟨G, 0, none⟩)] w _
  have zG := hG.c0
  have hGl : G < w.heap.size := World.block_lt_of_cell? w _ zG
  go_enter Tryz.func99, Tryz.ntmps99
  go_wp2
  go_ret
  exact ⟨ret_bool (by by_cases h : b.id = x.id <;> simp [h]), by go_grown⟩

/-- A list with a booking where its number belongs. -/
def P.insV (z : BkV) (lv : List BkV) : List BkV := lv.filter (fun y => decide (y.1.id < z.1.id)) ++ z :: lv.filter (fun y => decide (z.1.id < y.1.id))
def P.insB (z : Bkg) (l : List Bkg) : List Bkg := l.filter (fun y => decide (y.id < z.id)) ++ z :: l.filter (fun y => decide (z.id < y.id))
theorem insV_map (z : BkV) (lv : List BkV) : (P.insV z lv).map (·.1) = P.insB z.1 (lv.map (·.1)) := by
  rw [P.insV, P.insB, List.map_append, List.map_cons, filt_V (fun y => decide (y.id < z.1.id)), filt_V (fun y => decide (z.1.id < y.id))]
theorem insV_mem {z y : BkV} {lv : List BkV} (h : y ∈ P.insV z lv) : y = z ∨ y ∈ lv := by
  rcases List.mem_append.1 h with h | h
  · exact .inr (List.mem_filter.1 h).1
  · rcases List.mem_cons.1 h with h | h
    · exact .inl h
    · exact .inr (List.mem_filter.1 h).1

theorem one_bk (w : World) (b : Bkg) (fo : Option Addr) (fc : Nat) : SlAt (RC cellsV) 11 (W.bk w b fo fc) (some ⟨w.heap.size, 0, none⟩) 1 [(b, fo, fc)] :=
  SlAt.ofBlock (l := [(b, fo, fc)]) [cellsV (b, fo, fc)] (heap_alloc_new _ _) rfl rfl (fun i hi => by
    have hi : i < 1 := hi
    match i, hi with
    | 0, _ => exact ⟨_, rfl, rfl⟩) (by intro c hc; simp at hc; subst hc; rfl) (by simp [maxLen])
theorem three_bk (w : World) (a1 a2 a3 : Option Addr) (c1 c2 c3 : Nat) (l1 l2 l3 : List BkV) (h1 : SlAt (RC cellsV) 11 w a1 c1 l1) (h2 : SlAt (RC cellsV) 11 w a2 c2 l2) (h3 : SlAt (RC cellsV) 11 w a3 c3 l3) (t : TypeId) :
    BssAt (w.alloc (.cells #[.slice a1 l1.length c1, .slice a2 l2.length c2, .slice a3 l3.length c3] t)) (some ⟨w.heap.size, 0, none⟩) 3 [l1, l2, l3] :=
  SlAt.ofBlock (l := [l1, l2, l3]) [[.slice a1 l1.length c1], [.slice a2 l2.length c2], [.slice a3 l3.length c3]] (heap_alloc_new _ _) rfl rfl (fun i hi => by
    have hi : i < 3 := hi
    match i, hi with
    | 0, _ => exact ⟨_, rfl, _, _, rfl, SlAt.below (RC.mono _) h1 (by go_grown)⟩
    | 1, _ => exact ⟨_, rfl, _, _, rfl, SlAt.below (RC.mono _) h2 (by go_grown)⟩
    | 2, _ => exact ⟨_, rfl, _, _, rfl, SlAt.below (RC.mono _) h3 (by go_grown)⟩) (by simp) (by simp [maxLen])

set_option maxHeartbeats 4000000 in
theorem with_own (ao : Option Addr) (cap : Nat) (lv : List BkV) (n : Nat) (hn : lv.length = n) (b : Bkg) (fo : Option Addr) (fc : Nat) (w : World) (hl : BkVsAt w ao cap lv) (h16 : n ≤ 16) :
    Calls Tryz.prog 100 #[.slice ao n cap, V.bk b fo fc] w fun e w' => ∃ v, e = .returned v ∧ OwnB w' w.heap.size v (P.insV (b, fo, fc) lv) ∧ Below w.heap.size w w' := by
  have hba := bk_below w b fo fc
  have hbx := BBox.new w b fo fc
  have HT1 : Aside (Calls Tryz.prog 145 #[.slice ao n cap, .func (.func 157) #[] #[.pointer (some ⟨w.heap.size, 0, none⟩)]] (W.bk w b fo fc) fun e w' => ∃ v, e = .returned v ∧ OwnB w' (W.bk w b fo fc).heap.size v (lv.filter (fun y => decide (y.1.id < b.id))) ∧ Below (W.bk w b fo fc).heap.size (W.bk w b fo fc) w') :=
    those_own ao cap lv n hn 157 #[.pointer (some ⟨w.heap.size, 0, none⟩)] (fun y => decide (y.id < b.id)) _ (SlAt.below RBkV.mono hl hba) (by omega) (enters_of Tryz.func157 (by kernel_rfl) rfl) (fun y yo yc wx hw => with1_any b fo fc w.heap.size y yo yc wx (hbx.below hw))
  have HL : Aside (P.insV (b, fo, fc) lv = [lv.filter (fun y => decide (y.1.id < b.id)), [(b, fo, fc)], lv.filter (fun y => decide (b.id < y.1.id))].flatten) := by show _ = _; simp [P.insV]
  have hl1 : (lv.filter (fun y => decide (y.1.id < b.id))).length ≤ 16 := by have := List.length_filter_le (fun y : BkV => decide (y.1.id < b.id)) lv; omega
  have hl2 : (lv.filter (fun y => decide (b.id < y.1.id))).length ≤ 16 := by have := List.length_filter_le (fun y : BkV => decide (b.id < y.1.id)) lv; omega
  have HT2 : Aside (∀ w1, Below (W.bk w b fo fc).heap.size (W.bk w b fo fc) w1 → Calls Tryz.prog 145 #[.slice ao n cap, .func (.func 158) #[] #[.pointer (some ⟨w.heap.size, 0, none⟩)]] w1 fun e w' => ∃ v, e = .returned v ∧ OwnB w' w1.heap.size v (lv.filter (fun y => decide (b.id < y.1.id))) ∧ Below w1.heap.size w1 w') := fun w1 hw1 =>
    those_own ao cap lv n hn 158 #[.pointer (some ⟨w.heap.size, 0, none⟩)] (fun y => decide (b.id < y.id)) _ (SlAt.below RBkV.mono hl (bvia hba hw1)) (by omega) (enters_of Tryz.func158 (by kernel_rfl) rfl) (fun y yo yc wx hw => with2_any b fo fc w.heap.size y yo yc wx (hbx.below (bvia hw1 hw)))
  generalize lv.filter (fun y => decide (y.1.id < b.id)) = L1 at HT1 HL hl1
  generalize lv.filter (fun y => decide (b.id < y.1.id)) = L2 at HT2 HL hl2
  clear hl
  go_enter Tryz.func100, Tryz.ntmps100
  go_wp2_with fail
  refine HT1.out.mono ?_
  rintro e w1 ⟨v1, rfl, own1, hb1⟩
  have hB1 := bvia hba hb1
  obtain ⟨a1, c1, rfl, s1⟩ := OwnC.at cellsV_len own1
  have HS1 : Aside (SlAt (RC cellsV) 11 w1 a1 c1 L1) := s1
  clear own1 s1 HT1
  go_wp2_with fail
  refine (HT2.out w1 hb1).mono ?_
  rintro e w2 ⟨v2, rfl, own2, hb2⟩
  have hB2 := bvia hB1 hb2
  obtain ⟨a2, c2, rfl, s2⟩ := OwnC.at cellsV_len own2
  have HS2 : Aside (SlAt (RC cellsV) 11 w2 a2 c2 L2) := s2
  obtain ⟨z0, z1, z2, z3, z4, z5, z6, z7, z8, z9, z10⟩ := hbx.below (bvia hb1 hb2)
  have hbb := bk_below w2 b fo fc
  have HS3 : Aside (BssAt ((W.bk w2 b fo fc).alloc (.cells #[.slice a1 L1.length c1, .slice (some ⟨w2.heap.size, 0, none⟩) 1 1, .slice a2 L2.length c2] 30)) (some ⟨w2.heap.size + 1, 0, none⟩) 3 [L1, [(b, fo, fc)], L2]) := by
    have := three_bk (W.bk w2 b fo fc) a1 (some ⟨w2.heap.size, 0, none⟩) a2 c1 1 c2 L1 [(b, fo, fc)] L2 (SlAt.below (RC.mono _) HS1.out (bvia hb2 hbb)) (one_bk w2 b fo fc) (SlAt.below (RC.mono _) HS2.out hbb) 30
    rw [World.size_alloc] at this
    exact this
  have hfl : [L1, [(b, fo, fc)], L2].flatten.length = L1.length + (1 + L2.length) := by simp; omega
  have HCC : Aside (Calls Tryz.prog 159 #[.slice (some ⟨w2.heap.size + 1, 0, none⟩) 3 3] ((W.bk w2 b fo fc).alloc (.cells #[.slice a1 L1.length c1, .slice (some ⟨w2.heap.size, 0, none⟩) 1 1, .slice a2 L2.length c2] 30)) fun e w' => ∃ v, e = .returned v ∧ OwnB w' ((W.bk w2 b fo fc).alloc (.cells #[.slice a1 L1.length c1, .slice (some ⟨w2.heap.size, 0, none⟩) 1 1, .slice a2 L2.length c2] 30)).heap.size v [L1, [(b, fo, fc)], L2].flatten ∧ Below ((W.bk w2 b fo fc).alloc (.cells #[.slice a1 L1.length c1, .slice (some ⟨w2.heap.size, 0, none⟩) 1 1, .slice a2 L2.length c2] 30)).heap.size ((W.bk w2 b fo fc).alloc (.cells #[.slice a1 L1.length c1, .slice (some ⟨w2.heap.size, 0, none⟩) 1 1, .slice a2 L2.length c2] 30)) w') :=
    concat_own _ 3 [L1, [(b, fo, fc)], L2] _ HS3.out (by omega) (by omega) (by simp)
  have hbc : Below w2.heap.size w2 ((W.bk w2 b fo fc).alloc (.cells #[.slice a1 L1.length c1, .slice (some ⟨w2.heap.size, 0, none⟩) 1 1, .slice a2 L2.length c2] 30)) := by go_grown
  clear own2 s2 hfl HT2 HS3
  go_wp2_with fail
  refine HCC.out.mono ?_
  rintro e w3 ⟨v3, rfl, own3, hb3⟩
  have hBw := bvia hB2 hbc
  have HO : Aside (OwnB w3 w.heap.size v3 (P.insV (b, fo, fc) lv)) := by
    have := OwnC.ahead own3 hBw.size
    rw [← HL.out] at this
    exact this
  have hBf := bvia hBw hb3
  clear own3 HCC z0 z1 z2 z3 z4 z5 z6 z7 z8 z9 z10
  go_wp2
  go_ret
  exact ⟨v3, rfl, HO.out, hBf⟩

/-- H3: a sailing with one booking more. -/
def P.withB (x : Sail) (b : Bkg) : Sail := ⟨x.s, x.L, x.al, x.th, x.B, x.dn, x.day, x.lvs, P.insB b x.bks, x.cl⟩
def P.couldE (x : Sail) (b : Bkg) (r : Int) : Int := if r = 0 then (if P.bkE x.s b = 0 then (if x.bks.any (fun y => decide (y.id = b.id)) = true then 6 else 0) else P.bkE x.s b) else r

theorem grown_set (W : World) (b i : Nat) (v : Value) : W.grownBy (W.setCell ⟨b, i, none⟩ v) (some b) :=
  ⟨rfl, rfl, rfl, by simp [World.setCell], fun k _ hk => Below.heap_setCell _ _ _ _ (fun e => hk (by simp [e]))⟩
theorem sail_frozen (w : World) (x : Sail) (a : SailA) (k : Nat) : (W.sail w x a).frozen? ⟨w.heap.size, k, none⟩ = false := by simp

set_option maxHeartbeats 8000000 in
theorem stockCould_any (x : Sail) (a : SailA) (b : Bkg) (fo : Option Addr) (fc : Nat) (w : World) (hs : SailAt w x a) (hf : Fo.EntsAt w fo fc b.fol) :
    Calls Tryz.prog 46 #[V.sail x a, V.bk b fo fc] w fun e w' => ∃ r ok, e = .returned (.tuple #[.bool ok, .int .i64 (P.couldE x b r)]) ∧ P.SailE x r ∧ (¬ P.couldE x b r = 0 → ok = false) ∧ (P.couldE x b r = 0 → (ok = true ↔ P.SailE (P.withB x b) 0)) ∧ Below w.heap.size w w' := by
  have hsb : Below w.heap.size w (W.bk (W.sail w x a) b fo fc) := bvia (sail_below w x a) (bk_below _ b fo fc)
  have hsx : SBox (W.bk (W.sail w x a) b fo fc) w.heap.size x a := (SBox.new w x a).below (bk_below _ b fo fc)
  have hbx : BBox (W.bk (W.sail w x a) b fo fc) (w.heap.size + 1) b fo fc := by
    have := BBox.new (W.sail w x a) b fo fc
    rw [World.size_alloc] at this
    exact this
  have hfz : (W.bk (W.sail w x a) b fo fc).frozen? ⟨w.heap.size, 11, none⟩ = false := by
    rw [(bk_below (W.sail w x a) b fo fc).frozen (p := ⟨w.heap.size, 11, none⟩) (SBox.new w x a).lt]
    exact sail_frozen w x a 11
  obtain ⟨d0, d1, d2, d3, d4, d5, d6, d7, d8, d9, d10, d11, d12⟩ := hsx
  have HSX : Aside (SBox (W.bk (W.sail w x a) b fo fc) w.heap.size x a) := (SBox.new w x a).below (bk_below _ b fo fc)
  go_enter Tryz.func46, Tryz.ntmps46
  go_wp2_with fail
  refine (stockCheck_any x a _ (hs.below hsb)).mono ?_
  rintro e w1 ⟨r, rfl, hr, hb1⟩
  have hB1 := bvia hsb hb1
  have HX1 : Aside (SBox w1 w.heap.size x a) := HSX.out.below hb1
  have HB1 : Aside (BBox w1 (w.heap.size + 1) b fo fc) := hbx.below hb1
  have f1 : w1.frozen? ⟨w.heap.size, 11, none⟩ = false := by rw [hb1.frozen (p := ⟨w.heap.size, 11, none⟩) HSX.out.lt]; exact hfz
  clear d0 d1 d2 d3 d4 d5 d6 d7 d8 d9 d10 d11 d12 hbx hfz HSX hb1
  cases hz : (r != 0)
  rotate_left
  · have HE : Aside (P.SailE x r ∧ ¬ r = 0) := ⟨hr, by simpa using hz⟩
    have HF : Aside (P.couldE x b r = r) := by show _ = _; rw [P.couldE, if_neg HE.out.2]
    clear hr
    go_wp2
    go_ret2
    exact ⟨r, false, by rw [HF.out]; rfl, HE.out.1, fun _ => rfl, fun h => absurd (HF.out.symm.trans h) HE.out.2, hB1⟩
  obtain rfl : r = 0 := by simpa using hz
  have HE : Aside (P.SailE x 0) := hr
  obtain ⟨_, _, h0, hbk, h16, _⟩ := sail_ok hr
  have H0 : Aside (P.shp x.s = 0) := h0
  obtain ⟨d0, d1, d2, d3, d4, d5, d6, d7, d8, d9, d10, d11, d12⟩ := HX1.out
  obtain ⟨z0, z1, z2, z3, z4, z5, z6, z7, z8, z9, z10⟩ := HB1.out
  clear hr hz h0 hbk
  go_wp2_with fail
  refine (bkC_any x a b fo fc _ (hs.below hB1).ship (SlAt.below Fo.REnt.mono hf hB1) H0.out).mono ?_
  rintro e w2 ⟨rfl, hb2⟩
  have hB2 := bvia hB1 hb2
  have HX2 : Aside (SBox w2 w.heap.size x a) := HX1.out.below hb2
  have HB2 : Aside (BBox w2 (w.heap.size + 1) b fo fc) := HB1.out.below hb2
  have f2 : w2.frozen? ⟨w.heap.size, 11, none⟩ = false := by rw [hb2.frozen (p := ⟨w.heap.size, 11, none⟩) HX1.out.lt]; exact f1
  clear d0 d1 d2 d3 d4 d5 d6 d7 d8 d9 d10 d11 d12 z0 z1 z2 z3 z4 z5 z6 z7 z8 z9 z10 f1 hB1 hb2 HX1 HB1
  cases hk : (P.bkE x.s b != 0)
  rotate_left
  · have HN : Aside (¬ P.bkE x.s b = 0) := by show ¬ _; simpa using hk
    have HF : Aside (P.couldE x b 0 = P.bkE x.s b) := by show _ = _; rw [P.couldE, if_pos rfl, if_neg HN.out]
    go_wp2
    go_ret2
    exact ⟨0, false, by rw [HF.out]; rfl, HE.out, fun _ => rfl, fun h => absurd (HF.out.symm.trans h) HN.out, hB2⟩
  have HK : Aside (P.bkE x.s b = 0) := by show _ = _; simpa using hk
  rw [HK.out]
  clear hk
  obtain ⟨d0, d1, d2, d3, d4, d5, d6, d7, d8, d9, d10, d11, d12⟩ := HX2.out
  obtain ⟨z0, z1, z2, z3, z4, z5, z6, z7, z8, z9, z10⟩ := HB2.out
  have HC : Aside (Calls Tryz.prog 98 #[.slice a.ao x.bks.length a.cap, .func (.func 99) #[] #[.pointer (some ⟨w.heap.size + 1, 0, none⟩)]] w2 fun e w' => e = .returned (.bool (x.bks.any (fun y => decide (y.id = b.id)))) ∧ Below w2.heap.size w2 w') :=
    bkContains_any a.ao a.cap x.bks 99 #[.pointer (some ⟨w.heap.size + 1, 0, none⟩)] (fun y => decide (y.id = b.id)) _ (SlAt.below RBk.mono hs.bks hB2) (enters_of Tryz.func99 (by kernel_rfl) rfl)
      (fun y yo yc wx hw => could1_any b fo fc (w.heap.size + 1) y yo yc wx (HB2.out.below hw))
  go_wp2_with fail
  refine HC.out.mono ?_
  rintro e w3 ⟨rfl, hb3⟩
  have hB3 := bvia hB2 hb3
  have HX3 : Aside (SBox w3 w.heap.size x a) := HX2.out.below hb3
  have HB3 : Aside (BBox w3 (w.heap.size + 1) b fo fc) := HB2.out.below hb3
  have f3 : w3.frozen? ⟨w.heap.size, 11, none⟩ = false := by rw [hb3.frozen (p := ⟨w.heap.size, 11, none⟩) HX2.out.lt]; exact f2
  clear d0 d1 d2 d3 d4 d5 d6 d7 d8 d9 d10 d11 d12 z0 z1 z2 z3 z4 z5 z6 z7 z8 z9 z10 f2 hB2 hb3 HX2 HB2 HC
  cases ht : x.bks.any (fun y => decide (y.id = b.id))
  rotate_left
  · have HF : Aside (P.couldE x b 0 = 6) := by show _ = _; rw [P.couldE, if_pos rfl, if_pos HK.out, if_pos ht]
    go_wp2
    go_ret2
    exact ⟨0, false, by rw [HF.out]; rfl, HE.out, fun _ => rfl, fun h => absurd (HF.out.symm.trans h) (by decide), hB3⟩
  have HF : Aside (P.couldE x b 0 = 0) := by show _ = _; rw [P.couldE, if_pos rfl, if_pos HK.out, if_neg (by simp [ht])]
  clear ht
  obtain ⟨lv, hlv, hl⟩ := BksAt.pick hs.bks
  have hn : lv.length = x.bks.length := by rw [← hlv]; simp
  have HW : Aside (Calls Tryz.prog 100 #[.slice a.ao x.bks.length a.cap, V.bk b fo fc] w3 fun e w' => ∃ v, e = .returned v ∧ OwnB w' w3.heap.size v (P.insV (b, fo, fc) lv) ∧ Below w3.heap.size w3 w') :=
    with_own a.ao a.cap lv x.bks.length hn b fo fc w3 (SlAt.below RBkV.mono hl hB3) h16
  have HIM : Aside ((P.insV (b, fo, fc) lv).map (·.1) = P.insB b x.bks) := by show _ = _; rw [insV_map, hlv]
  have HEN : Aside (∀ y ∈ P.insV (b, fo, fc) lv, Fo.EntsAt w y.2.1 y.2.2 y.1.fol) := fun y hy => by
    rcases insV_mem hy with rfl | h
    · exact hf
    · exact hl.ents y h
  obtain ⟨d0, d1, d2, d3, d4, d5, d6, d7, d8, d9, d10, d11, d12⟩ := HX3.out
  obtain ⟨z0, z1, z2, z3, z4, z5, z6, z7, z8, z9, z10⟩ := HB3.out
  clear hn hl hlv
  go_wp2_with fail
  refine HW.out.mono ?_
  rintro e w4 ⟨v4, rfl, own4, hb4⟩
  have hB4 := bvia hB3 hb4
  have HX4 : Aside (SBox w4 w.heap.size x a) := HX3.out.below hb4
  have f4 : w4.frozen? ⟨w.heap.size, 11, none⟩ = false := by rw [hb4.frozen (p := ⟨w.heap.size, 11, none⟩) HX3.out.lt]; exact f3
  obtain ⟨a4, c4, rfl, s4⟩ := OwnC.at cellsV_len own4
  have hX3l : w.heap.size < w3.heap.size := HX3.out.lt
  have hlen : (P.insV (b, fo, fc) lv).length = (P.insB b x.bks).length := by rw [← HIM.out, List.length_map]
  have hBs : Below w.heap.size w (w4.setCell ⟨w.heap.size, 11, none⟩ (.slice a4 (P.insB b x.bks).length c4)) := hB4.setCell (p := ⟨w.heap.size, 11, none⟩) (Nat.le_refl _) _
  rw [hlen] at own4
  have own5 : OwnB (w4.setCell ⟨w.heap.size, 11, none⟩ (.slice a4 (P.insB b x.bks).length c4)) w3.heap.size (.slice a4 (P.insB b x.bks).length c4) (P.insV (b, fo, fc) lv) :=
    OwnC.apart own4 (grown_set w4 w.heap.size 11 _) (fun r e hv => by cases e; have := (own4.lt _ hv).1; omega)
  have HBK5 : Aside (BksAt (w4.setCell ⟨w.heap.size, 11, none⟩ (.slice a4 (P.insB b x.bks).length c4)) a4 c4 (P.insB b x.bks)) := by
    obtain ⟨a5, c5, e5, s5⟩ := OwnC.at cellsV_len own5
    rw [hlen] at e5
    simp only [Value.slice.injEq] at e5
    obtain ⟨rfl, -, rfl⟩ := e5
    have := BkVsAt.all (bkvs_of s5 (fun y hy => SlAt.below Fo.REnt.mono (HEN.out y hy) hBs))
    rw [HIM.out] at this
    exact this
  have HS5 : Aside (SailAt (w4.setCell ⟨w.heap.size, 11, none⟩ (.slice a4 (P.insB b x.bks).length c4)) (P.withB x b) ⟨a.v, a.lo, a.bo, a.lc, a.bc, a4, c4⟩) := ⟨(hs.below hBs).ship, (hs.below hBs).fare, HBK5.out⟩
  have HCK : Aside (Calls Tryz.prog 14 #[V.sail (P.withB x b) ⟨a.v, a.lo, a.bo, a.lc, a.bc, a4, c4⟩] (w4.setCell ⟨w.heap.size, 11, none⟩ (.slice a4 (P.insB b x.bks).length c4)) fun e w' => ∃ r, e = .returned (.int .i64 r) ∧ P.SailE (P.withB x b) r ∧ Below (w4.setCell ⟨w.heap.size, 11, none⟩ (.slice a4 (P.insB b x.bks).length c4)).heap.size (w4.setCell ⟨w.heap.size, 11, none⟩ (.slice a4 (P.insB b x.bks).length c4)) w') := stockCheck_any _ _ _ HS5.out
  have HBs : Aside (Below w.heap.size w (w4.setCell ⟨w.heap.size, 11, none⟩ (.slice a4 (P.insB b x.bks).length c4))) := hBs
  rw [hlen]
  clear d0 d1 d2 d3 d4 d5 d6 d7 d8 d9 d10 d11 d12 z0 z1 z2 z3 z4 z5 z6 z7 z8 z9 z10 own4 own5 s4 hlen HW HBK5 HS5 hBs hb4 f3
  obtain ⟨d0, d1, d2, d3, d4, d5, d6, d7, d8, d9, d10, d11, d12⟩ := HX4.out
  go_wp2_with fail
  refine HCK.out.mono ?_
  rintro e w5 ⟨r, rfl, hr, hb5⟩
  have HR : Aside ((r == 0) = true ↔ P.SailE (P.withB x b) 0) := by
    constructor
    · intro h
      have h : r = 0 := by simpa using h
      rw [h] at hr
      exact hr
    · intro h
      have := SailE.one hr h
      simp [this]
  have hBf := bvia HBs.out hb5
  clear hr HCK
  go_wp2
  go_ret2
  exact ⟨0, (r == 0), by rw [HF.out]; rfl, HE.out, fun h => absurd HF.out h, fun _ => HR.out, hBf⟩

end Go.Proofs.YtlamhfbdeinkkaeGreat.St
