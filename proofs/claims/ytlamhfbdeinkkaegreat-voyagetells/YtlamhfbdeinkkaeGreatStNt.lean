/- Package stock: checkMatched, Check. -/
import Derived.Test.YtlamhfbdeinkkaeGreatStLt
import Derived.Lib.AppendZerosOnto
import Derived.Lib.AppendZeros
namespace Go.Proofs.YtlamhfbdeinkkaeGreat.St
open Go.RowKit Bk
set_option linter.unusedSimpArgs false
set_option linter.unusedVariables false
set_option maxRecDepth 10000

theorem bk_all {s : Vsl} {b : Bkg} (h : P.bkE s b = 0) : (P.btw b.kind 1 2 && P.btw b.state 1 3) = true ∧ (P.btw b.id 1 999999 && P.btw b.guests 1 4) = true ∧ P.chk b.frm b.to s.legs = 0 ∧ P.kindE s b = 0 ∧ P.btw b.til 0 9999 = true ∧ ¬ (b.til ≠ 0 ∧ b.state ≠ 1) ∧ Fo.P.folE b.fol = 0 := by
  unfold P.bkE at h
  split at h
  · rename_i h1
    split at h
    · rename_i h2
      split at h
      · rename_i h3
        split at h
        · rename_i h4
          split at h
          · rename_i h5
            split at h
            · omega
            · rename_i h6
              exact ⟨h1, h2, h3, h4, h5, h6, h⟩
          · omega
        · contradiction
      · contradiction
    · omega
  · omega
/-- A promise that is right may have a cabin just if that is eligible. -/
theorem may_elig {s : Vsl} {b : Bkg} {c : Nat} (h0 : P.shp s = 0) (h : P.bkE s b = 0) (ho : P.opn b = true) (hc : c < s.bs.length) : P.may s b c = P.elig s b c := by
  obtain ⟨h1, h2, h3, h4, h5, h6, h7⟩ := bk_all h
  have hk2 : b.kind = 2 := by simp [P.opn] at ho; exact ho.1.1
  have hp := kind_prom h4 hk2
  have hpe : P.kindE s (P.wc b c) = if P.elig s b c = true then 0 else 4 := by
    have e1 : P.kindE s (P.wc b c) = P.promE s (P.wc b c) := by rw [P.kindE, if_neg (by show ¬ b.kind = 1; omega)]
    have e2 : P.elig s (P.wc b c) (P.wc b c).cabin = P.elig s b c := rfl
    rw [e1, P.promE, if_pos (by show P.btw b.cat 0 ((s.cs.length : Int) - 1) = true; simp [P.btw]; omega), if_pos ⟨hp.2.2.1, hp.2.2.2.1⟩, if_neg (by show ¬ (c : Int) = -1; omega), if_pos (by show P.cabB s c = true; exact cabB_in (by omega) (by omega)), e2]
  have hb : P.bkE s (P.wc b c) = if P.elig s b c = true then 0 else 4 := by
    have k1 : (P.btw (P.wc b c).kind 1 2 && P.btw (P.wc b c).state 1 3) = true := h1
    have k2 : (P.btw (P.wc b c).id 1 999999 && P.btw (P.wc b c).guests 1 4) = true := h2
    have k3 : P.chk (P.wc b c).frm (P.wc b c).to s.legs = 0 := h3
    have k5 : P.btw (P.wc b c).til 0 9999 = true := h5
    have k6 : ¬ ((P.wc b c).til ≠ 0 ∧ (P.wc b c).state ≠ 1) := h6
    rw [P.bkE, if_pos k1, if_pos k2, if_pos k3, hpe]
    cases he : P.elig s b c
    · rfl
    · simp only [if_true]
      rw [if_pos k5, if_neg k6]
      exact h7
  rw [P.may, P.checkE, if_pos h0, hb]
  cases P.elig s b c <;> rfl

theorem edP_edgs {s : Vsl} {l : List Bkg} {i : Nat} {b : Bkg} (h0 : P.shp s = 0) (h : P.bkE s b = 0) (ho : P.opn b = true) : P.edP s (P.untI l s.bs.length) i b = P.edgs s l i b s.bs.length := by
  rw [P.edP, P.edgs, P.untI, P.unt, List.filter_map, List.map_map, List.filter_filter]
  congr 1
  refine List.filter_congr (fun c hc => ?_)
  have hc := List.mem_range.1 hc
  show (P.may s b c && !l.any (P.hasC c)) = P.elC s l b c
  rw [may_elig h0 h ho hc, P.elC, Bool.and_comm]
  congr 1
  rw [Bool.eq_iff_iff, decide_eq_true_iff, mine_nil]
  simp
theorem pedP_pedg {s : Vsl} {l m : List Bkg} {i : Nat} (h0 : P.shp s = 0) (h : ∀ b ∈ m, P.bkE s b = 0) : P.pedP s (P.untI l s.bs.length) i (m.filter P.opn) = P.pedg s l i m := by
  induction m generalizing i with
  | nil => rfl
  | cons b t ih =>
    rw [List.filter_cons, P.pedg]
    have iht := fun i => ih (i := i) (fun y hy => h y (by simp [hy]))
    cases ho : P.opn b
    · simp [iht]
    · simp only [if_true]
      rw [P.pedP, iht, edP_edgs h0 (h b (by simp)) ho]
theorem filt_V {lv : List BkV} (p : Bkg → Bool) : (lv.filter (fun y => p y.1)).map (·.1) = (lv.map (·.1)).filter p := by
  induction lv with
  | nil => rfl
  | cons y t ih =>
    rw [List.map_cons, List.filter_cons, List.filter_cons]
    cases p y.1 <;> simp [ih]
theorem filt_opn {s : Vsl} {m : List Bkg} (h : ∀ b ∈ m, P.bkE s b = 0) : m.filter P.opP = m.filter P.opn := List.filter_congr (fun b hb => opP_opn (h b hb))
/-- There is a greatest matching. -/
theorem max_ex {l : List (Int × Int)} (B : Nat) (h : ∀ m, Ma.IsM l m → m.length ≤ B) : ∃ c, Ma.MaxM l c := by
  induction B with
  | zero => exact ⟨0, ⟨[], ⟨by simp, by simp⟩, rfl⟩, h⟩
  | succ B ih =>
    by_cases hx : ∃ m, Ma.IsM l m ∧ m.length = B + 1
    · exact ⟨B + 1, hx, h⟩
    · refine ih (fun m hm => ?_)
      have h1 := h m hm
      have h2 : ¬ m.length = B + 1 := fun e => hx ⟨m, hm, e⟩
      omega
/-- H1, of the promises. -/
def P.MatchE (x : Sail) (r : Int) : Prop := ∃ c, Ma.MaxM (P.pedg x.s x.bks 0 x.bks) c ∧ r = if c < (P.pids x.bks).length then 9 else 0

set_option maxHeartbeats 8000000 in
theorem checkMatched_any (x : Sail) (a : SailA) (w : World) (hs : SailAt w x a) (h0 : P.shp x.s = 0) (hbk : ∀ b ∈ x.bks, P.bkE x.s b = 0) (h16 : x.bks.length ≤ 16) :
    Calls Tryz.prog 54 #[V.sail x a] w fun e w' => ∃ r, e = .returned (.int .i64 r) ∧ P.MatchE x r ∧ Below w.heap.size w w' := by
  obtain ⟨_, _, _, _, _, _, _, hbs⟩ := shp_size h0
  obtain ⟨lv, hlv, hl⟩ := BksAt.pick hs.bks
  have hsx := SBox.new w x a
  have hsb := sail_below w x a
  have hcle := hs.ship.cabs.le
  have hcmx := hs.ship.cabs.max
  unfold maxLen at hcmx
  have HMP : Aside ((lv.filter (fun y => P.opP y.1)).map (·.1) = x.bks.filter P.opn) := by show _ = _; rw [filt_V, hlv, filt_opn hbk]
  have HNN : Aside ((lv.filter (fun y => P.opP y.1)).length = (P.pids x.bks).length) := by show _ = _; rw [pids_len, ← HMP.out, List.length_map]
  have HPP : Aside (P.pedP x.s (P.untI x.bks x.s.bs.length) 0 ((lv.filter (fun y => P.opP y.1)).map (·.1)) = P.pedg x.s x.bks 0 x.bks) := by show _ = _; rw [HMP.out, pedP_pedg h0 hbk]
  have HG : Aside (Ma.P.graphE ((P.pids x.bks).length : Nat) (x.s.bs.length : Nat) (P.pedg x.s x.bks 0 x.bks) = 0) := pedg_graph h16 hbs
  have hn16 : (P.pids x.bks).length ≤ 16 := by
    rw [pids_len]
    have := List.length_filter_le P.opn x.bks
    omega
  have HEN : Aside (∀ y ∈ lv.filter (fun y => P.opP y.1), Fo.EntsAt w y.2.1 y.2.2 y.1.fol) := fun y hy => hl.ents y (List.mem_filter.1 hy).1
  have HME : Aside (∀ (E : List (Int × Int)) (n : Nat) (k : List Int), P.pedg x.s x.bks 0 x.bks = E → (P.pids x.bks).length = n → (k = [] ∧ Ma.MaxM E n) ∨ Ma.Lacks E n k → (k.length = 0 → P.MatchE x 0) ∧ (0 < k.length → P.MatchE x 9)) := by
    intro E n k e1 e2 h
    have hE : ∀ z ∈ P.pedg x.s x.bks 0 x.bks, 0 ≤ z.1 ∧ z.1 < ((P.pids x.bks).length : Int) := fun z hz => by
      have := pedg_mem hz
      rw [pids_len]
      omega
    subst e1 e2
    rcases h with ⟨rfl, hm⟩ | hk
    · exact ⟨fun _ => ⟨_, hm, by simp⟩, fun h => by simp at h⟩
    · obtain ⟨c, hc⟩ := max_ex (P.pids x.bks).length (fun m hm => Nat.le_of_lt (Ma.lacks_max hE hk hm))
      obtain ⟨A, _, hA, _⟩ := hk.few
      refine ⟨fun h => by omega, fun _ => ⟨c, hc, ?_⟩⟩
      obtain ⟨m, hm, rfl⟩ := hc.1
      rw [if_pos (Ma.lacks_max hE hk hm)]
  have HOP := open_own x a _ lv hlv (SlAt.below RBkV.mono hl hsb) h16
  have HOP2 : Aside (Calls Tryz.prog 94 #[V.sail x a] (W.sail w x a) fun e w' => ∃ v, e = .returned v ∧ OwnB w' (W.sail w x a).heap.size v (lv.filter (fun y => P.opP y.1)) ∧ Below (W.sail w x a).heap.size (W.sail w x a) w') := HOP
  generalize lv.filter (fun y => P.opP y.1) = bl at HMP HNN HPP HEN HOP2
  obtain ⟨d0, d1, d2, d3, d4, d5, d6, d7, d8, d9, d10, d11, d12⟩ := hsx
  clear HOP hbk h0 hl hlv
  go_enter Tryz.func54, Tryz.ntmps54
  go_wp2_with fail
  refine HOP2.out.mono ?_
  rintro e w1 ⟨v1, rfl, own1, hb1⟩
  have hB1 := bvia hsb hb1
  have HX1 : Aside (SBox w1 w.heap.size x a) := (SBox.new w x a).below hb1
  obtain ⟨bo, bc, rfl, hbl⟩ := OwnC.at cellsV_len own1
  have hble := hbl.le
  have hbmx := hbl.max
  unfold maxLen at hbmx
  have HBL : Aside (BkVsAt w1 bo bc bl) := bkvs_of hbl (fun y hy => SlAt.below Fo.REnt.mono (HEN.out y hy) hB1)
  have hnb : bl.length = (P.pids x.bks).length := HNN.out
  rw [hnb] at hble ⊢
  have HNB : Aside (bl.length = (P.pids x.bks).length) := hnb
  generalize hPE : P.pedg x.s x.bks 0 x.bks = E at HG HPP
  have HPE : Aside (P.pedg x.s x.bks 0 x.bks = E) := hPE
  generalize hPN : (P.pids x.bks).length = nb at HG HNB hn16 hble HNN ⊢
  have HPN : Aside ((P.pids x.bks).length = nb) := hPN
  clear d0 d1 d2 d3 d4 d5 d6 d7 d8 d9 d10 d11 d12 own1 hbl hnb HOP2 hPE hPN
  obtain ⟨d0, d1, d2, d3, d4, d5, d6, d7, d8, d9, d10, d11, d12⟩ := HX1.out
  go_wp2_with fail
  go_region_held3 (fun u => u.cell? ⟨w.heap.size, 0, none⟩ = some (.int .i64 x.s.legs) ∧ u.cell? ⟨w.heap.size, 1, none⟩ = some (.int .i64 x.s.souls) ∧ u.cell? ⟨w.heap.size, 2, none⟩ = some (.slice a.v.cao x.s.cs.length a.v.cc) ∧ u.cell? ⟨w.heap.size, 3, none⟩ = some (.slice a.v.bao x.s.bs.length a.v.bc) ∧ u.cell? ⟨w.heap.size, 4, none⟩ = some (.slice a.lo x.L.length a.lc) ∧ u.cell? ⟨w.heap.size, 5, none⟩ = some (.int .i64 x.al) ∧ u.cell? ⟨w.heap.size, 6, none⟩ = some (.int .i64 x.th) ∧ u.cell? ⟨w.heap.size, 7, none⟩ = some (.slice a.bo x.B.length a.bc) ∧ u.cell? ⟨w.heap.size, 8, none⟩ = some (.int .i64 x.dn) ∧ u.cell? ⟨w.heap.size, 9, none⟩ = some (.int .i64 x.day) ∧ u.cell? ⟨w.heap.size, 10, none⟩ = some (.int .i64 x.lvs) ∧ u.cell? ⟨w.heap.size, 11, none⟩ = some (.slice a.ao x.bks.length a.cap) ∧ u.cell? ⟨w.heap.size, 12, none⟩ = some (.bool x.cl))
    (first
      | exact ⟨y0, y1, y2, y3, y4, y5, y6, y7, y8, y9, y10, y11, y12⟩
      | exact ⟨z0, z1, z2, z3, z4, z5, z6, z7, z8, z9, z10, z11, z12⟩
      | exact ⟨d0, d1, d2, d3, d4, d5, d6, d7, d8, d9, d10, d11, d12⟩
      | go_keep)
    (first
      | (go_at_call 95; refine (edges_own x a bo bc bl nb HNB.out _ (hs.below (bvia hB1 (by go_grown))) (SlAt.below RBkV.mono HBL.out (by go_grown)) hbs hn16).mono ?_; rintro e w3 ⟨v3, rfl, own3, hb3⟩; rw [HPP.out] at own3; obtain ⟨ao3, cap3, rfl, a3⟩ := OwnC.at cellsG_len own3; obtain ⟨z0, z1, z2, z3, z4, z5, z6, z7, z8, z9, z10, z11, z12⟩ := HX1.out.below (bvia (by go_grown) hb3))
      | (go_at_call 113; refine (Ma.lack_any ao3 cap3 E nb x.s.bs.length _ (SlAt.below (RC.mono _) a3 (by go_grown))).mono ?_; rintro e w4 ⟨v4, k4, rfl, own4, hb4, hbad4, hok4⟩; rw [HG.out]; obtain ⟨ao4, cap4, rfl, a4⟩ := Ma.OwnI.at own4; obtain ⟨y0, y1, y2, y3, y4, y5, y6, y7, y8, y9, y10, y11, y12⟩ := HX1.out.below (bvia (bvia (by go_grown) hb3) hb4)))
  all_goals
    have hB4 : Below w.heap.size w w4 := bvia hB1 (bvia (bvia (by go_grown) hb3) hb4)
    have h4 := HME.out E nb k4 HPE.out HPN.out (by have := hok4 HG.out; simpa using this)
    have H4 : Aside ((k4.length = 0 → P.MatchE x 0) ∧ (0 < k4.length → P.MatchE x 9)) := h4
    have hle4 := a4.le
    have hmx4 := a4.max
    unfold maxLen at hmx4
    generalize k4.length = n4 at H4 hle4 ⊢
    clear a3 a4 own3 own4 z0 z1 z2 z3 z4 z5 z6 z7 z8 z9 z10 z11 z12 y0 y1 y2 y3 y4 y5 y6 y7 y8 y9 y10 y11 y12 d0 d1 d2 d3 d4 d5 d6 d7 d8 d9 d10 d11 d12 hbad4 hok4 h4 HME HG HPP HBL
    by_cases hn4 : 0 < n4
    · have HM : Aside (P.MatchE x 9) := H4.out.2 hn4
      have hn4i : (0 : Int) < n4 := by omega
      go_wp2
      go_ret
      exact ⟨_, rfl, HM.out, hB4⟩
    · have HM : Aside (P.MatchE x 0) := H4.out.1 (by omega)
      have hn4i : ¬ (0 : Int) < n4 := by omega
      go_wp2
      go_ret
      exact ⟨_, rfl, HM.out, hB4⟩

set_option maxHeartbeats 4000000 in
/-- H1: Check. -/
theorem stockCheck_any (x : Sail) (a : SailA) (w : World) (hs : SailAt w x a) :
    Calls Tryz.prog 14 #[V.sail x a] w fun e w' => ∃ r, e = .returned (.int .i64 r) ∧ P.SailE x r ∧ Below w.heap.size w w' := by
  have hsx := SBox.new w x a
  have hsb := sail_below w x a
  obtain ⟨d0, d1, d2, d3, d4, d5, d6, d7, d8, d9, d10, d11, d12⟩ := hsx
  go_enter Tryz.func14, Tryz.ntmps14
  go_wp2_with fail
  refine (checkFrame_any x a _ (hs.below hsb)).mono ?_
  rintro e w1 ⟨rfl, hb1⟩
  have hB1 := bvia hsb hb1
  clear d0 d1 d2 d3 d4 d5 d6 d7 d8 d9 d10 d11 d12
  have HX1 : Aside (SBox w1 w.heap.size x a) := (SBox.new w x a).below hb1
  cases hf : (P.frame x != 0)
  rotate_left
  · have HE : Aside (P.SailE x (P.frame x)) := by
      have h : ¬ P.frame x = 0 := by simpa using hf
      exact .inl (by rw [pre_frame h]; exact ⟨h, rfl⟩)
    go_wp2
    go_ret
    exact ⟨_, rfl, HE.out, hB1⟩
  have hF0 : P.frame x = 0 := by simpa using hf
  obtain ⟨h0, _, _, _, h16⟩ := frame_zero hF0
  have HF : Aside (P.frame x = 0) := hF0
  have H0 : Aside (P.shp x.s = 0) := h0
  rw [hF0]
  obtain ⟨d0, d1, d2, d3, d4, d5, d6, d7, d8, d9, d10, d11, d12⟩ := HX1.out
  clear hf hF0 h0
  go_wp2_with fail
  refine (checkBookings_any x a _ (hs.below hB1) H0.out).mono ?_
  rintro e w2 ⟨rfl, hb2⟩
  have hB2 := bvia hB1 hb2
  clear d0 d1 d2 d3 d4 d5 d6 d7 d8 d9 d10 d11 d12
  have HX2 : Aside (SBox w2 w.heap.size x a) := HX1.out.below hb2
  cases hk : (P.bksI x.s 0 x.bks != 0)
  rotate_left
  · have HE : Aside (P.SailE x (P.bksI x.s 0 x.bks)) := by
      have h : ¬ P.bksI x.s 0 x.bks = 0 := by simpa using hk
      exact .inl (by rw [pre_bks HF.out h]; exact ⟨h, rfl⟩)
    go_wp2
    go_ret
    exact ⟨_, rfl, HE.out, hB2⟩
  have hK0 : P.bksI x.s 0 x.bks = 0 := by simpa using hk
  have HK : Aside (P.bksI x.s 0 x.bks = 0) := hK0
  have HBK : Aside (∀ b ∈ x.bks, P.bkE x.s b = 0) := bksI_ok hK0
  rw [hK0]
  obtain ⟨d0, d1, d2, d3, d4, d5, d6, d7, d8, d9, d10, d11, d12⟩ := HX2.out
  clear hk hK0
  have HCL : Aside (x.bks.any (P.clP x) = x.bks.any (P.clB x)) := clP_any HBK.out
  go_wp2_with fail
  refine (checkClosed_any x a _ (hs.below hB2)).mono ?_
  rintro e w3 ⟨rfl, hb3⟩
  have hB3 := bvia hB2 hb3
  clear d0 d1 d2 d3 d4 d5 d6 d7 d8 d9 d10 d11 d12
  have HX3 : Aside (SBox w3 w.heap.size x a) := HX2.out.below hb3
  cases hc : x.bks.any (P.clP x)
  rotate_left
  · have HE : Aside (P.SailE x 4) := .inl (by rw [pre_cl HF.out HK.out (by rw [← HCL.out]; exact hc)]; exact ⟨by decide, rfl⟩)
    rw [if_pos rfl]
    go_wp2
    go_ret
    exact ⟨_, rfl, HE.out, hB3⟩
  have HP : Aside (P.pre x = 0) := pre_ok HF.out HK.out (by rw [← HCL.out]; exact hc)
  rw [if_neg (by simp)]
  obtain ⟨d0, d1, d2, d3, d4, d5, d6, d7, d8, d9, d10, d11, d12⟩ := HX3.out
  clear hc HCL
  go_wp2_with fail
  refine (checkRoom_any x a _ (hs.below hB3) H0.out HBK.out h16).mono ?_
  rintro e w4 ⟨rfl, hb4⟩
  have hB4 := bvia hB3 hb4
  clear d0 d1 d2 d3 d4 d5 d6 d7 d8 d9 d10 d11 d12
  have HX4 : Aside (SBox w4 w.heap.size x a) := HX3.out.below hb4
  cases ht : P.twice x
  rotate_left
  · have HE : Aside (P.SailE x 6) := .inr ⟨HP.out, 6, .inl ⟨ht, rfl⟩, rfl⟩
    have HR : Aside (P.roomE x = 6) := by show _ = _; rw [P.roomE, if_pos ht]
    rw [HR.out]
    go_wp2
    go_ret
    exact ⟨_, rfl, HE.out, hB4⟩
  cases hm : P.many x
  rotate_left
  · have HE : Aside (P.SailE x 2) := .inr ⟨HP.out, 8, .inr (.inl ⟨ht, hm, rfl⟩), rfl⟩
    have HR : Aside (P.roomE x = 2) := by show _ = _; rw [P.roomE, if_neg (by simp [ht]), if_pos hm]
    rw [HR.out]
    go_wp2
    go_ret
    exact ⟨_, rfl, HE.out, hB4⟩
  have HR : Aside (P.roomE x = 0) := by show _ = _; rw [P.roomE, if_neg (by simp [ht]), if_neg (by simp [hm])]
  have HM : Aside (∀ r, P.MatchE x r → P.SailE x r) := fun r ⟨c, h1, h2⟩ => .inr ⟨HP.out, r, .inr (.inr ⟨ht, hm, c, h1, h2⟩), by rw [h2]; split <;> rfl⟩
  rw [HR.out]
  obtain ⟨d0, d1, d2, d3, d4, d5, d6, d7, d8, d9, d10, d11, d12⟩ := HX4.out
  clear ht hm
  go_wp2_with fail
  refine (checkMatched_any x a _ (hs.below hB4) H0.out HBK.out h16).mono ?_
  rintro e w5 ⟨r, rfl, hr, hb5⟩
  have HE : Aside (P.SailE x r) := HM.out r hr
  clear hr d0 d1 d2 d3 d4 d5 d6 d7 d8 d9 d10 d11 d12
  go_wp2
  go_ret
  exact ⟨_, rfl, HE.out, bvia hB4 hb5⟩

end Go.Proofs.YtlamhfbdeinkkaeGreat.St
namespace Go.Proofs.YtlamhfbdeinkkaeGreat.St
open Go.RowKit Bk
set_option linter.unusedSimpArgs false
set_option linter.unusedVariables false
set_option maxRecDepth 10000

theorem pre_zero {x : Sail} (h : P.pre x = 0) : P.frame x = 0 ∧ P.bksI x.s 0 x.bks = 0 ∧ x.bks.any (P.clB x) = false := by
  unfold P.pre at h
  split at h
  · split at h
    · split at h
      · omega
      · rename_i h1 h2 h3
        exact ⟨h1, h2, by simpa using h3⟩
    · contradiction
  · contradiction
/-- A sailing that is right. -/
theorem sail_ok {x : Sail} (h : P.SailE x 0) : P.pre x = 0 ∧ P.frame x = 0 ∧ P.shp x.s = 0 ∧ (∀ b ∈ x.bks, P.bkE x.s b = 0) ∧ x.bks.length ≤ 16 ∧ P.twice x = false ∧ P.many x = false ∧ ∃ c, Ma.MaxM (P.pedg x.s x.bks 0 x.bks) c ∧ (P.pids x.bks).length ≤ c := by
  rcases h with ⟨h1, h2⟩ | ⟨h1, q, hq, hr⟩
  · exact absurd h2.symm h1
  · obtain ⟨hf, hb, _⟩ := pre_zero h1
    obtain ⟨h0, _, _, _, h16⟩ := frame_zero hf
    refine ⟨h1, hf, h0, bksI_ok hb, h16, ?_⟩
    rcases hq with ⟨a, rfl⟩ | ⟨a, b, rfl⟩ | ⟨a, b, c, hc, rfl⟩
    · simp at hr
    · simp at hr
    · refine ⟨a, b, c, hc, ?_⟩
      split at hr
      · simp at hr
      · omega
def P.ok {α : Type} (r : Int) (l : List α) : List α := if r = 0 then l else []

set_option maxHeartbeats 8000000 in
theorem stockPromises_any (x : Sail) (a : SailA) (w : World) (hs : SailAt w x a) :
    Calls Tryz.prog 44 #[V.sail x a] w fun e w' => ∃ r v1 v2, e = .returned (.tuple #[v1, v2, .int .i64 r]) ∧ P.SailE x r ∧ OwnJ w' w.heap.size v1 (P.ok r (P.pids x.bks)) ∧ OwnG w' w.heap.size v2 (P.ok r (P.pedg x.s x.bks 0 x.bks)) ∧ Below w.heap.size w w' := by
  have hsx := SBox.new w x a
  have hsb := sail_below w x a
  obtain ⟨d0, d1, d2, d3, d4, d5, d6, d7, d8, d9, d10, d11, d12⟩ := hsx
  go_enter Tryz.func44, Tryz.ntmps44
  go_wp2_with fail
  refine (stockCheck_any x a _ (hs.below hsb)).mono ?_
  rintro e w1 ⟨r, rfl, hr, hb1⟩
  have hB1 := bvia hsb hb1
  clear d0 d1 d2 d3 d4 d5 d6 d7 d8 d9 d10 d11 d12
  have HX1 : Aside (SBox w1 w.heap.size x a) := (SBox.new w x a).below hb1
  cases hz : (r != 0)
  rotate_left
  · have HE : Aside (P.SailE x r ∧ ¬ r = 0) := ⟨hr, by simpa using hz⟩
    clear hr
    go_wp2
    go_ret3
    exact ⟨r, .slice none 0 0, .slice none 0 0, rfl, HE.out.1, (by rw [P.ok, if_neg HE.out.2]; exact OwnC.nil _ _), (by rw [P.ok, if_neg HE.out.2]; exact OwnC.nil _ _), hB1⟩
  obtain rfl : r = 0 := by simpa using hz
  have HE : Aside (P.SailE x 0) := hr
  obtain ⟨_, _, h0, hbk, h16, _⟩ := sail_ok hr
  obtain ⟨_, _, _, _, _, _, _, hbs⟩ := shp_size h0
  obtain ⟨lv, hlv, hl⟩ := BksAt.pick hs.bks
  have HMP : Aside ((lv.filter (fun y => P.opP y.1)).map (·.1) = x.bks.filter P.opn) := by show _ = _; rw [filt_V, hlv, filt_opn hbk]
  have HPI : Aside ((lv.filter (fun y => P.opP y.1)).map (fun y => y.1.id) = P.pids x.bks) := by
    show _ = _
    rw [P.pids, ← HMP.out, List.map_map]
    rfl
  have HNN : Aside ((lv.filter (fun y => P.opP y.1)).length = (P.pids x.bks).length) := by show _ = _; rw [pids_len, ← HMP.out, List.length_map]
  have HPP : Aside (P.pedP x.s (P.untI x.bks x.s.bs.length) 0 ((lv.filter (fun y => P.opP y.1)).map (·.1)) = P.pedg x.s x.bks 0 x.bks) := by show _ = _; rw [HMP.out, pedP_pedg h0 hbk]
  have hn16 : (lv.filter (fun y => P.opP y.1)).length ≤ 16 := by
    have := List.length_filter_le (fun y : BkV => P.opP y.1) lv
    have : lv.length = x.bks.length := by rw [← hlv]; simp
    omega
  have HEN : Aside (∀ y ∈ lv.filter (fun y => P.opP y.1), Fo.EntsAt w y.2.1 y.2.2 y.1.fol) := fun y hy => hl.ents y (List.mem_filter.1 hy).1
  have HOP2 : Aside (Calls Tryz.prog 94 #[V.sail x a] w1 fun e w' => ∃ v, e = .returned v ∧ OwnB w' w1.heap.size v (lv.filter (fun y => P.opP y.1)) ∧ Below w1.heap.size w1 w') := open_own x a _ lv hlv (SlAt.below RBkV.mono hl hB1) h16
  generalize lv.filter (fun y => P.opP y.1) = bl at HMP HPI HNN HPP HEN HOP2 hn16
  obtain ⟨d0, d1, d2, d3, d4, d5, d6, d7, d8, d9, d10, d11, d12⟩ := HX1.out
  clear hr hz h0 hbk hl hlv
  go_wp2_with fail
  refine HOP2.out.mono ?_
  rintro e w2 ⟨v2, rfl, own2, hb2⟩
  have hB2 := bvia hB1 hb2
  have HX2 : Aside (SBox w2 w.heap.size x a) := HX1.out.below hb2
  have hw2 : w.heap.size < w2.heap.size := HX2.out.lt
  obtain ⟨bo, bc, rfl, hbl⟩ := OwnC.at cellsV_len own2
  have hble := hbl.le
  have hbmx := hbl.max
  unfold maxLen at hbmx
  have hbv : BkVsAt w2 bo bc bl := bkvs_of hbl (fun y hy => SlAt.below Fo.REnt.mono (HEN.out y hy) hB2)
  clear d0 d1 d2 d3 d4 d5 d6 d7 d8 d9 d10 d11 d12 own2 hbl HOP2
  go_wp2
  go_loopg [7, 19] bl.length (fun g v i wr => ∃ (k : Nat), k ≤ bl.length ∧ g = bl.length - k ∧ i = .int .i64 k ∧ OwnJ wr w2.heap.size v ((bl.take k).map (fun y => y.1.id)) ∧ Below w2.heap.size w2 wr)
  case atStart => exact ⟨0, Nat.zero_le _, rfl, rfl, OwnC.nil _ _, Below.refl _ _⟩
  case round =>
    obtain ⟨k, hk, rfl, rfl, hown, hB⟩ := hrel
    have hsz := hB.size
    by_cases hlt : k < bl.length
    · obtain ⟨b, off, y, hao, hbw, hd, hy, hfy⟩ := BkVsAt.get hbv hB k hlt
      have HT : Aside ((bl.take (k + 1)).map (fun y => y.1.id) = (bl.take k).map (fun y => y.1.id) ++ [y.1.id]) := by show _ = _; rw [take_snoc' hlt hd, List.map_append]; rfl
      have hln : ((bl.take k).map (fun y => y.1.id)).length ≤ 16 := by
        rw [List.length_map]
        exact Nat.le_trans (List.length_take_le' k bl) hn16
      generalize (bl.take k).map (fun y => y.1.id) = L0 at hown HT hln
      obtain ⟨y, fo, fc⟩ := y
      simp only at hy hfy HT
      have HAO : Aside (bo = some ⟨b, off, none⟩) := hao
      rw [hao]
      obtain ⟨y0, y1, y2, y3, y4, y5, y6, y7, y8, y9, y10⟩ := hy
      have hbl' : b < wr.heap.size := World.block_lt_of_cell? wr _ y0
      have hkl : (k : Int) < bl.length := by omega
      have hba := bk_below wr y fo fc
      have HO1 : Aside (OwnJ (W.bk wr y fo fc) w2.heap.size u7 L0) := OwnC.below hown hba
      have hB3 := bvia hB hba
      have hs3 := hB3.size
      clear hd hown hao
      go_wp2_with (at_builtin; refine wpList_app_int (by rfl) _ _ (by rfl) w2.heap.size _ L0 y.id (by rfl) HO1.out (wr.heap.size + 1) (by simp) (by rfl) hs3 (by omega) ?_; intro v4 w4 hown4 hgr4)
      have hB4 : Below w2.heap.size w2 w4 := OwnC.grown hB3 HO1.out (Nat.le_refl _) hgr4
      rw [← HT.out] at hown4
      rw [← HAO.out]
      clear y0 y1 y2 y3 y4 y5 y6 y7 y8 y9 y10
      go_wp2
      go_roundg (bl.length - (k + 1))
      case measure => omega
      case rel => exact ⟨k + 1, by omega, rfl, by go_num, hown4, hB4⟩
    · obtain rfl : k = bl.length := by omega
      rw [List.take_of_length_le (Nat.le_refl _), HPI.out] at hown
      have HX3 := HX2.out.low hB hw2
      obtain ⟨d0, d1, d2, d3, d4, d5, d6, d7, d8, d9, d10, d11, d12⟩ := HX3
      have HOW : Aside (OwnJ wr w2.heap.size u7 (P.pids x.bks)) := hown
      have hBw : Below w.heap.size w wr := hB2.trans (hB.mono (by omega))
      clear hown
      go_wp2_with fail
      refine (edges_own x a bo bc bl bl.length rfl _ (hs.below hBw) (SlAt.below RBkV.mono hbv hB) hbs hn16).mono ?_
      rintro e w5 ⟨v5, rfl, own5, hb5⟩
      rw [HPP.out] at own5
      have HO5 : Aside (OwnG w5 w.heap.size v5 (P.pedg x.s x.bks 0 x.bks)) := OwnC.ahead own5 hBw.size
      have HO6 : Aside (OwnJ w5 w.heap.size u7 (P.pids x.bks)) := OwnC.ahead (OwnC.below HOW.out hb5) (by omega)
      have hBf := bvia hBw hb5
      clear own5 d0 d1 d2 d3 d4 d5 d6 d7 d8 d9 d10 d11 d12
      go_wp2
      go_ret3
      exact ⟨0, u7, v5, rfl, HE.out, (by rw [P.ok, if_pos rfl]; exact HO6.out), (by rw [P.ok, if_pos rfl]; exact HO5.out), hBf⟩

end Go.Proofs.YtlamhfbdeinkkaeGreat.St
namespace Go.Proofs.YtlamhfbdeinkkaeGreat.St
open Go.RowKit Bk
set_option linter.unusedSimpArgs false
set_option linter.unusedVariables false
set_option maxRecDepth 10000

theorem grown_own (w : World) (z : Array Value) (hz : z.size = 11) (n G : Nat) (hG : G ≤ maxLen) (hn : n ≤ G) : OwnB (w.alloc (.cells (Builtin.zeroCells z n ++ Builtin.zeroCells z (G - n)) 37)).drew w.heap.size (.slice (some ⟨w.heap.size, 0, none⟩) 0 G) ([] : List BkV) := by
  refine ⟨rfl, Or.inr ⟨w.heap.size, G, _, rfl, Nat.le_refl _, heap_alloc_new w _, Nat.zero_le _, hG, ?_, by simp⟩⟩
  simp only [Array.size_append, size_zeroCells, hz]
  omega

set_option maxHeartbeats 2000000 in
theorem grow_nil (n : Nat) (h0 : 0 < n) (hn : n ≤ 1000) (w : World) :
    Calls Tryz.prog 200 #[.slice none 0 0, .int .i64 n] w fun e w' => ∃ v, e = .returned v ∧ OwnB w' w.heap.size v [] ∧ Below w.heap.size w w' := by
  obtain ⟨i0, hi, hi0, hi1, hi2⟩ := info_parts Tryz.infoBk
  have hrz : ∀ ty, (Builtin.append_ #[30, 3] ty #[.slice none 0 0, .int .i64 n]).run Tryz.prog w = _ := fun ty =>
    Lib.run_append_grow_zeros w 30 3 ty 37 i0 _ .i64 .i64 Tryz.underlying30 Tryz.underlying3 hi hi0 none 0 0 [] (by exact run_firstCells_none w.drew i0.size 0 0 0) n h0 (by omega) (by omega) (by omega) (by rw [hi2]; omega) (growslice_fits (by omega) (by rw [hi2]; omega))
  simp only [Nat.zero_add] at hrz
  have hG := grownCap_le_maxLen w n 0 37 (by unfold maxLen; omega)
  have hG2 := grownCap_ge w n 0 37
  generalize grownCap w n 0 37 = G at hrz hG hG2
  have HOW : Aside (OwnB (w.alloc (.cells (Builtin.zeroCells #[.int .i64 0, .int .i64 0, .int .i64 0, .int .i64 0, .bool false, .int .i64 0, .int .i64 0, .int .i64 0, .int .i64 0, .int .i64 0, .slice none 0 0] n ++ Builtin.zeroCells #[.int .i64 0, .int .i64 0, .int .i64 0, .int .i64 0, .bool false, .int .i64 0, .int .i64 0, .int .i64 0, .int .i64 0, .int .i64 0, .slice none 0 0] (G - n)) 37)).drew w.heap.size (.slice (some ⟨w.heap.size, 0, none⟩) 0 G) ([] : List BkV)) := grown_own w _ rfl n G hG hG2
  have HBE : Aside (∀ o : Obj, Below w.heap.size w (w.alloc o).drew) := fun o => by go_grown
  unfold maxLen at hG
  have hni : ¬ ((n : Int) < 0) := by omega
  have hnp : (0 : Int) < n := by omega
  go_enter Tryz.func200, Tryz.ntmps200
  go_wp2_with (at_builtin; refine Lib.wpList_append_run _ rfl _ _ _ _ rfl _ _ rfl rfl _ _ (hrz _) ?_)
  all_goals
    go_ret
    exact ⟨.slice (some ⟨w.heap.size, 0, none⟩) 0 G, rfl, HOW.out, HBE.out _⟩

/-- Slices of bookings, in a slice. -/
def RBs (w : World) (l : List BkV) (cs : List Value) : Prop := ∃ ao cap, cs = [.slice ao l.length cap] ∧ SlAt (RC cellsV) 11 w ao cap l
theorem RBs.mono : Mono RBs := fun w w' x cs hb ⟨ao, cap, h1, h2⟩ => ⟨ao, cap, h1, SlAt.below (RC.mono _) h2 hb⟩
abbrev BssAt (w : World) (ao : Option Addr) (cap : Nat) (l : List (List BkV)) : Prop := SlAt RBs 1 w ao cap l
theorem BssAt.get {w w' : World} {ao : Option Addr} {cap : Nat} {l : List (List BkV)} (h : BssAt w ao cap l) (hb : Below w.heap.size w w') (k : Nat) (hk : k < l.length) :
    ∃ b off, ∃ y : List BkV, ∃ yo yc, ao = some ⟨b, off, none⟩ ∧ b < w.heap.size ∧ l.drop k = y :: l.drop (k + 1) ∧ w'.cell? ⟨b, off + k, none⟩ = some (.slice yo y.length yc) ∧ SlAt (RC cellsV) 11 w' yo yc y := by
  obtain ⟨b, off, x, cs, h1, h2, h3, ⟨yo, yc, rfl, h4⟩, h5, h6⟩ := SlAt.get RBs.mono h hb k hk
  exact ⟨b, off, x, yo, yc, h1, h2, h3, by simpa using h6 0 _ rfl, h4⟩

end Go.Proofs.YtlamhfbdeinkkaeGreat.St
namespace Go.Proofs.YtlamhfbdeinkkaeGreat.St
open Go.RowKit Bk
set_option linter.unusedSimpArgs false
set_option linter.unusedVariables false
set_option maxRecDepth 10000

def P.insB (z : Bkg) (l : List Bkg) : List Bkg := l.filter (fun y => decide (y.id < z.id)) ++ z :: l.filter (fun y => decide (z.id < y.id))
/-- H3: a sailing with one booking more. -/
def P.withB (x : Sail) (b : Bkg) : Sail := ⟨x.s, x.L, x.al, x.th, x.B, x.dn, x.day, x.lvs, P.insB b x.bks, x.cl⟩
def P.couldE (x : Sail) (b : Bkg) (r : Int) : Int := if r = 0 then (if P.bkE x.s b = 0 then (if x.bks.any (fun y => decide (y.id = b.id)) = true then 6 else 0) else P.bkE x.s b) else r

theorem grown_set (W : World) (b i : Nat) (v : Value) : W.grownBy (W.setCell ⟨b, i, none⟩ v) (some b) :=
  ⟨rfl, rfl, rfl, by simp [World.setCell], fun k _ hk => Below.heap_setCell _ _ _ _ (fun e => hk (by simp [e]))⟩
end Go.Proofs.YtlamhfbdeinkkaeGreat.St
