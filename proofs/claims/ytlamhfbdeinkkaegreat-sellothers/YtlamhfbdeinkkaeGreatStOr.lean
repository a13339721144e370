/- Package stock: Promises, Free. -/
import Derived.Test.YtlamhfbdeinkkaeGreatStNr
namespace Go.Proofs.YtlamhfbdeinkkaeGreat.St
open Go.RowKit Bk
set_option linter.unusedSimpArgs false
set_option linter.unusedVariables false
set_option maxRecDepth 10000

theorem pre_zero {x : Sail} (h : P.pre x = 0) : P.frame x = 0 ∧ P.bksI x.s 0 x.bks = 0 ∧ x.bks.any (P.clB x) = false := by
  unfold P.pre at h
  split at h
  · split at h
    · split at h
      · omega
      · rename_i h1 h2 h3
        exact ⟨h1, h2, by simpa using h3⟩
    · contradiction
  · contradiction
/-- A sailing that is right. -/
theorem sail_ok {x : Sail} (h : P.SailE x 0) : P.pre x = 0 ∧ P.frame x = 0 ∧ P.shp x.s = 0 ∧ (∀ b ∈ x.bks, P.bkE x.s b = 0) ∧ x.bks.length ≤ 16 ∧ P.twice x = false ∧ P.many x = false ∧ ∃ c, Ma.MaxM (P.pedg x.s x.bks 0 x.bks) c ∧ (P.pids x.bks).length ≤ c := by
  rcases h with ⟨h1, h2⟩ | ⟨h1, q, hq, hr⟩
  · exact absurd h2.symm h1
  · obtain ⟨hf, hb, _⟩ := pre_zero h1
    obtain ⟨h0, _, _, _, h16⟩ := frame_zero hf
    refine ⟨h1, hf, h0, bksI_ok hb, h16, ?_⟩
    rcases hq with ⟨a, rfl⟩ | ⟨a, b, rfl⟩ | ⟨a, b, c, hc, rfl⟩
    · simp at hr
    · simp at hr
    · refine ⟨a, b, c, hc, ?_⟩
      split at hr
      · simp at hr
      · omega
def P.ok {α : Type} (r : Int) (l : List α) : List α := if r = 0 then l else []

set_option maxHeartbeats 8000000 in
theorem stockPromises_any (x : Sail) (a : SailA) (w : World) (hs : SailAt w x a) :
    Calls Tryz.prog 44 #[V.sail x a] w fun e w' => ∃ r v1 v2, e = .returned (.tuple #[v1, v2, .int .i64 r]) ∧ P.SailE x r ∧ OwnJ w' w.heap.size v1 (P.ok r (P.pids x.bks)) ∧ OwnG w' w.heap.size v2 (P.ok r (P.pedg x.s x.bks 0 x.bks)) ∧ Below w.heap.size w w' := by
  have hsx := SBox.new w x a
  have hsb := sail_below w x a
  obtain ⟨d0, d1, d2, d3, d4, d5, d6, d7, d8, d9, d10, d11, d12⟩ := hsx
  go_enter Tryz.func44, Tryz.ntmps44
  go_wp2_with fail
  refine (stockCheck_any x a _ (hs.below hsb)).mono ?_
  rintro e w1 ⟨r, rfl, hr, hb1⟩
  have hB1 := bvia hsb hb1
  clear d0 d1 d2 d3 d4 d5 d6 d7 d8 d9 d10 d11 d12
  have HX1 : Aside (SBox w1 w.heap.size x a) := (SBox.new w x a).below hb1
  cases hz : (r != 0)
  rotate_left
  · have HE : Aside (P.SailE x r ∧ ¬ r = 0) := ⟨hr, by simpa using hz⟩
    clear hr
    go_wp2
    go_ret3
    exact ⟨r, .slice none 0 0, .slice none 0 0, rfl, HE.out.1, (by rw [P.ok, if_neg HE.out.2]; exact OwnC.nil _ _), (by rw [P.ok, if_neg HE.out.2]; exact OwnC.nil _ _), hB1⟩
  obtain rfl : r = 0 := by simpa using hz
  have HE : Aside (P.SailE x 0) := hr
  obtain ⟨_, _, h0, hbk, h16, _⟩ := sail_ok hr
  obtain ⟨_, _, _, _, _, _, _, hbs⟩ := shp_size h0
  obtain ⟨lv, hlv, hl⟩ := BksAt.pick hs.bks
  have HMP : Aside ((lv.filter (fun y => P.opP y.1)).map (·.1) = x.bks.filter P.opn) := by show _ = _; rw [filt_V, hlv, filt_opn hbk]
  have HPI : Aside ((lv.filter (fun y => P.opP y.1)).map (fun y => y.1.id) = P.pids x.bks) := by
    show _ = _
    rw [P.pids, ← HMP.out, List.map_map]
    rfl
  have HNN : Aside ((lv.filter (fun y => P.opP y.1)).length = (P.pids x.bks).length) := by show _ = _; rw [pids_len, ← HMP.out, List.length_map]
  have HPP : Aside (P.pedP x.s (P.untI x.bks x.s.bs.length) 0 ((lv.filter (fun y => P.opP y.1)).map (·.1)) = P.pedg x.s x.bks 0 x.bks) := by show _ = _; rw [HMP.out, pedP_pedg h0 hbk]
  have hn16 : (lv.filter (fun y => P.opP y.1)).length ≤ 16 := by
    have := List.length_filter_le (fun y : BkV => P.opP y.1) lv
    have : lv.length = x.bks.length := by rw [← hlv]; simp
    omega
  have HEN : Aside (∀ y ∈ lv.filter (fun y => P.opP y.1), Fo.EntsAt w y.2.1 y.2.2 y.1.fol) := fun y hy => hl.ents y (List.mem_filter.1 hy).1
  have HOP2 : Aside (Calls Tryz.prog 94 #[V.sail x a] w1 fun e w' => ∃ v, e = .returned v ∧ OwnB w' w1.heap.size v (lv.filter (fun y => P.opP y.1)) ∧ Below w1.heap.size w1 w') := open_own x a _ lv hlv (SlAt.below RBkV.mono hl hB1) h16
  generalize lv.filter (fun y => P.opP y.1) = bl at HMP HPI HNN HPP HEN HOP2 hn16
  obtain ⟨d0, d1, d2, d3, d4, d5, d6, d7, d8, d9, d10, d11, d12⟩ := HX1.out
  clear hr hz h0 hbk hl hlv
  go_wp2_with fail
  refine HOP2.out.mono ?_
  rintro e w2 ⟨v2, rfl, own2, hb2⟩
  have hB2 := bvia hB1 hb2
  have HX2 : Aside (SBox w2 w.heap.size x a) := HX1.out.below hb2
  have hw2 : w.heap.size < w2.heap.size := HX2.out.lt
  obtain ⟨bo, bc, rfl, hbl⟩ := OwnC.at cellsV_len own2
  have hble := hbl.le
  have hbmx := hbl.max
  unfold maxLen at hbmx
  have hbv : BkVsAt w2 bo bc bl := bkvs_of hbl (fun y hy => SlAt.below Fo.REnt.mono (HEN.out y hy) hB2)
  clear d0 d1 d2 d3 d4 d5 d6 d7 d8 d9 d10 d11 d12 own2 hbl HOP2
  go_wp2
  go_loopg [7, 19] bl.length (fun g v i wr => ∃ (k : Nat), k ≤ bl.length ∧ g = bl.length - k ∧ i = .int .i64 k ∧ OwnJ wr w2.heap.size v ((bl.take k).map (fun y => y.1.id)) ∧ Below w2.heap.size w2 wr)
  case atStart => exact ⟨0, Nat.zero_le _, rfl, rfl, OwnC.nil _ _, Below.refl _ _⟩
  case round =>
    obtain ⟨k, hk, rfl, rfl, hown, hB⟩ := hrel
    have hsz := hB.size
    by_cases hlt : k < bl.length
    · obtain ⟨b, off, y, hao, hbw, hd, hy, hfy⟩ := BkVsAt.get hbv hB k hlt
      have HT : Aside ((bl.take (k + 1)).map (fun y => y.1.id) = (bl.take k).map (fun y => y.1.id) ++ [y.1.id]) := by show _ = _; rw [take_snoc' hlt hd, List.map_append]; rfl
      have hln : ((bl.take k).map (fun y => y.1.id)).length ≤ 16 := by
        rw [List.length_map]
        exact Nat.le_trans (List.length_take_le' k bl) hn16
      generalize (bl.take k).map (fun y => y.1.id) = L0 at hown HT hln
      obtain ⟨y, fo, fc⟩ := y
      simp only at hy hfy HT
      have HAO : Aside (bo = some ⟨b, off, none⟩) := hao
      rw [hao]
      obtain ⟨y0, y1, y2, y3, y4, y5, y6, y7, y8, y9, y10⟩ := hy
      have hbl' : b < wr.heap.size := World.block_lt_of_cell? wr _ y0
      have hkl : (k : Int) < bl.length := by omega
      have hba := bk_below wr y fo fc
      have HO1 : Aside (OwnJ (W.bk wr y fo fc) w2.heap.size u7 L0) := OwnC.below hown hba
      have hB3 := bvia hB hba
      have hs3 := hB3.size
      clear hd hown hao
      go_wp2_with (at_builtin; refine wpList_app_int (by rfl) _ _ (by rfl) w2.heap.size _ L0 y.id (by rfl) HO1.out (wr.heap.size + 1) (by simp) (by rfl) hs3 (by omega) ?_; intro v4 w4 hown4 hgr4)
      have hB4 : Below w2.heap.size w2 w4 := OwnC.grown hB3 HO1.out (Nat.le_refl _) hgr4
      rw [← HT.out] at hown4
      rw [← HAO.out]
      clear y0 y1 y2 y3 y4 y5 y6 y7 y8 y9 y10
      go_wp2
      go_roundg (bl.length - (k + 1))
      case measure => omega
      case rel => exact ⟨k + 1, by omega, rfl, by go_num, hown4, hB4⟩
    · obtain rfl : k = bl.length := by omega
      rw [List.take_of_length_le (Nat.le_refl _), HPI.out] at hown
      have HX3 := HX2.out.low hB hw2
      obtain ⟨d0, d1, d2, d3, d4, d5, d6, d7, d8, d9, d10, d11, d12⟩ := HX3
      have HOW : Aside (OwnJ wr w2.heap.size u7 (P.pids x.bks)) := hown
      have hBw : Below w.heap.size w wr := hB2.trans (hB.mono (by omega))
      clear hown
      go_wp2_with fail
      refine (edges_own x a bo bc bl bl.length rfl _ (hs.below hBw) (SlAt.below RBkV.mono hbv hB) hbs hn16).mono ?_
      rintro e w5 ⟨v5, rfl, own5, hb5⟩
      rw [HPP.out] at own5
      have HO5 : Aside (OwnG w5 w.heap.size v5 (P.pedg x.s x.bks 0 x.bks)) := OwnC.ahead own5 hBw.size
      have HO6 : Aside (OwnJ w5 w.heap.size u7 (P.pids x.bks)) := OwnC.ahead (OwnC.below HOW.out hb5) (by omega)
      have hBf := bvia hBw hb5
      clear own5 d0 d1 d2 d3 d4 d5 d6 d7 d8 d9 d10 d11 d12
      go_wp2
      go_ret3
      exact ⟨0, u7, v5, rfl, HE.out, (by rw [P.ok, if_pos rfl]; exact HO6.out), (by rw [P.ok, if_pos rfl]; exact HO5.out), hBf⟩

/-- H2: of Free. -/
def P.freeE (x : Sail) (r c : Int) : Int := if r = 0 then (if P.cabB x.s c = true then 0 else 3) else r
def P.freeL (x : Sail) (r c : Int) : List (Int × Int) := if P.freeE x r c = 0 then Sp.P.free (P.addsL x.s.legs [] (P.mine c x.bks)) x.s.legs else []

set_option maxHeartbeats 4000000 in
theorem stockFree_any (x : Sail) (a : SailA) (c : Int) (w : World) (hs : SailAt w x a) :
    Calls Tryz.prog 45 #[V.sail x a, .int .i64 c] w fun e w' => ∃ r v, e = .returned (.tuple #[v, .int .i64 (P.freeE x r c)]) ∧ P.SailE x r ∧ Sp.Own w' w.heap.size v (P.freeL x r c) ∧ Below w.heap.size w w' := by
  have hsx := SBox.new w x a
  have hsb := sail_below w x a
  obtain ⟨d0, d1, d2, d3, d4, d5, d6, d7, d8, d9, d10, d11, d12⟩ := hsx
  go_enter Tryz.func45, Tryz.ntmps45
  go_wp2_with fail
  refine (stockCheck_any x a _ (hs.below hsb)).mono ?_
  rintro e w1 ⟨r, rfl, hr, hb1⟩
  have hB1 := bvia hsb hb1
  clear d0 d1 d2 d3 d4 d5 d6 d7 d8 d9 d10 d11 d12
  have HX1 : Aside (SBox w1 w.heap.size x a) := (SBox.new w x a).below hb1
  cases hz : (r != 0)
  rotate_left
  · have HE : Aside (P.SailE x r ∧ ¬ r = 0) := ⟨hr, by simpa using hz⟩
    have HF : Aside (P.freeE x r c = r) := by show _ = _; rw [P.freeE, if_neg HE.out.2]
    clear hr
    go_wp2
    go_ret2
    exact ⟨r, .slice none 0 0, by rw [HF.out]; rfl, HE.out.1, (by rw [P.freeL, HF.out, if_neg HE.out.2]; exact World.ownsRow_nil _ _ _ _), hB1⟩
  obtain rfl : r = 0 := by simpa using hz
  have HE : Aside (P.SailE x 0) := hr
  obtain ⟨_, _, h0, hbk, h16, ht, _⟩ := sail_ok hr
  have HAL : Aside (P.allE x.s x.bks = 0) := by show _ = _; rw [P.allE, if_pos h0]; exact bksE_zero hbk
  have hsl : P.sails x.s.legs = true := by have := shp_size h0; simp [P.sails]; omega
  have HCB : Aside (P.cabB x.s c = true → P.spE x.s x.bks c = 0 ∧ P.spL x.s x.bks c = P.addsL x.s.legs [] (P.mine c x.bks) ∧ Sp.P.calendar (P.addsL x.s.legs [] (P.mine c x.bks)) x.s.legs = 0) := fun hc => by
    have hcc : 0 ≤ c ∧ c < x.s.bs.length := by simp [P.cabB, P.btw] at hc; omega
    obtain ⟨n, rfl⟩ : ∃ n : Nat, c = n := ⟨c.toNat, by omega⟩
    have hB : P.addsB x.s.legs (P.mine n x.bks) = true := by
      apply Classical.byContradiction
      intro h
      have := twice_hit (x := x) (c := n) (by omega) (by simpa using h)
      rw [ht] at this
      cases this
    have e : P.addsE x.s.legs [] (P.mine n x.bks) = 0 := by simpa [P.addsB] using hB
    refine ⟨by rw [P.spE, if_pos HAL.out, if_pos hc, e], by rw [P.spL, if_pos HAL.out, if_pos hc], adds_cal (nil_cal hsl) e⟩
  have HCN : Aside (P.cabB x.s c = false → P.spE x.s x.bks c = 3) := fun hc => by show _ = _; rw [P.spE, if_pos HAL.out, if_neg (by simp [hc])]
  obtain ⟨d0, d1, d2, d3, d4, d5, d6, d7, d8, d9, d10, d11, d12⟩ := HX1.out
  clear hr hz h0 hbk ht hsl HAL
  go_wp2_with fail
  refine (spans_any x.s a.v a.ao a.cap x.bks c _ (hs.below hB1).ship (SlAt.below RBk.mono hs.bks hB1)).mono ?_
  rintro e w2 ⟨v2, rfl, own2, hb2⟩
  have hB2 := bvia hB1 hb2
  have HX2 : Aside (SBox w2 w.heap.size x a) := HX1.out.below hb2
  clear d0 d1 d2 d3 d4 d5 d6 d7 d8 d9 d10 d11 d12
  cases hc : P.cabB x.s c
  · rw [HCN.out hc]
    have HF : Aside (P.freeE x 0 c = 3) := by show _ = _; rw [P.freeE, if_pos rfl, if_neg (by simp [hc])]
    obtain ⟨a2, n2, c2, hv2⟩ : ∃ a2 n2 c2, v2 = .slice a2 n2 c2 := by obtain ⟨a2, c2, hv, -⟩ := Sp.Own.at own2; exact ⟨_, _, _, hv⟩
    rw [hv2]
    clear own2 hv2
    go_wp2
    go_ret2
    exact ⟨0, .slice none 0 0, by rw [HF.out]; rfl, HE.out, (by rw [P.freeL, HF.out]; exact World.ownsRow_nil _ _ _ _), hB2⟩
  · obtain ⟨e1, e2, e3⟩ := HCB.out hc
    have HF : Aside (P.freeE x 0 c = 0) := by show _ = _; rw [P.freeE, if_pos rfl, if_pos hc]
    have HL : Aside (P.freeL x 0 c = Sp.P.free (P.addsL x.s.legs [] (P.mine c x.bks)) x.s.legs) := by show _ = _; rw [P.freeL, if_pos HF.out]
    rw [e1]
    rw [e2] at own2
    have HC : Aside (Sp.P.calendar (P.addsL x.s.legs [] (P.mine c x.bks)) x.s.legs = 0) := e3
    generalize P.addsL x.s.legs [] (P.mine c x.bks) = AL at own2 HC HL
    obtain ⟨ao2, cap2, rfl, a2⟩ := Sp.Own.at own2
    have d0 := HX2.out.c0
    clear own2 e1 e2 e3
    go_wp2_with fail
    refine (Sp.free_any ao2 cap2 AL x.s.legs _ a2).mono ?_
    rintro e w3 ⟨v3, rfl, own3, hb3⟩
    rw [HC.out]
    have HO3 : Aside (Sp.Own w3 w.heap.size v3 (P.freeL x 0 c)) := by
      have := own_ahead own3 hB2.size
      rw [← HL.out] at this
      exact this
    obtain ⟨a3, n3, c3, hv3⟩ : ∃ a3 n3 c3, v3 = .slice a3 n3 c3 := by obtain ⟨a3, c3, hv, -⟩ := Sp.Own.at own3; exact ⟨_, _, _, hv⟩
    rw [hv3] at HO3 ⊢
    have hBf := bvia hB2 hb3
    clear own3 hv3 d0 a2
    go_wp2
    go_ret2
    exact ⟨0, .slice a3 n3 c3, by rw [HF.out]; rfl, HE.out, HO3.out, hBf⟩

end Go.Proofs.YtlamhfbdeinkkaeGreat.St
