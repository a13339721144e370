/- The walk of BookGone where a booking is gone. -/
import Derived.Test.YtgopdnlmiloipadBkS
namespace Go.Proofs.Ytgopdnlmiloipad.Bk
open Go.RowKit
set_option linter.unusedSimpArgs false
set_option linter.unusedVariables false

set_option maxRecDepth 10000 in
set_option maxHeartbeats 8000000 in
theorem bookGone_yes (s : Vsl) (a : VslA) (ao : Option Addr) (cap : Nat) (l : List Bkg) (k : Nat) (cabin : Int) (w : World) (hs : VslAt w s a) (A B : List BkV) (x : BkV) (hlv : BkVsAt w ao cap (A ++ x :: B)) (hl : (A ++ x :: B).map (·.1) = l) (hA : A.length = k)
    (hst : (x.1.state != 3) = false) (hck0 : P.checkE s x.1 = 0) (hL : l.length ≤ 1353245080300) :
    Calls Try.prog 4 #[V.vsl s a, .slice ao l.length cap, .int .i64 k, .int .i64 cabin] w fun e w' => e = .returned (.bool true) ∧ Below w.heap.size w w' := by
  obtain ⟨less, hless⟩ : ∃ less, (A ++ B).map (·.1) = less := ⟨_, rfl⟩
  have hgone : P.live x.1 = false := by simp at hst; simp [P.live, hst]
  obtain ⟨hz0, hz1⟩ := checkE_zero hck0
  have el : l = A.map (·.1) ++ x.1 :: B.map (·.1) := by rw [← hl]; simp
  have els : less = A.map (·.1) ++ B.map (·.1) := by rw [← hless]; simp
  have HSP : Aside (P.spE s less cabin = P.spE s l cabin ∧ P.spL s less cabin = P.spL s l cabin) := by
    have := sp_gone (cabin := cabin) (A := A.map (·.1)) (B := B.map (·.1)) hz1 hgone
    rw [← el, ← els] at this
    exact ⟨this.1.symm, this.2.symm⟩
  have HSO : Aside (P.soE s less = P.soE s l ∧ P.soL s less = P.soL s l) := by
    have := so_gone (A := A.map (·.1)) (B := B.map (·.1)) hz1 hgone
    rw [← el, ← els] at this
    exact ⟨this.1.symm, this.2.symm⟩
  have hlen : l.length = k + (B.length + 1) := by rw [el, ← hA]; simp
  have hlens : less.length = k + B.length := by rw [els, ← hA]; simp
  have hle : l.length ≤ cap := by have := hlv.le; rw [List.length_append, List.length_cons] at this; omega
  have hLs : less.length ≤ 1353245080300 := by omega
  have hmx := hlv.max
  unfold maxLen at hmx
  have hkl : (k : Int) < l.length := by omega
  have hkn : k < l.length := by omega
  have hd0 : decide ((k : Int) < 0) = false := by simp
  have hd1 : decide ((l.length : Int) ≤ (k : Int)) = false := by simp; omega
  have hb0 : Below w.heap.size w (w.alloc (.cells #[.int .i64 s.legs, .int .i64 s.souls, .slice a.cao s.cs.length a.cc, .slice a.bao s.bs.length a.bc] 25)) := by go_grown
  have hv0 := VBox.new w s a
  obtain ⟨b, off, y, hao, hbw, hd, hy, hfy⟩ := BkVsAt.get hlv (Below.refl _ w) k (by rw [List.length_append, List.length_cons]; omega)
  obtain rfl : y = x := by
    rw [List.drop_append_of_le_length (by omega), List.drop_of_length_le (by omega)] at hd
    simp at hd
    exact hd.1.symm
  subst hao
  obtain ⟨x, fo, fc⟩ := y
  simp only at hy hfy hst hck0 hgone hz1
  have HL : Aside (BksAt w (some ⟨b, off, none⟩) cap l) := by have := hlv.all; rw [hl] at this; exact this
  have HP1 : Aside (SlAt (RC cellsV) 11 w (some ⟨b, off, none⟩) cap A) := SlAt.part hlv.plain
  have HP2 : Aside (SlAt (RC cellsV) 11 w (tailOf 11 (some ⟨b, off, none⟩) cap (k + 1)) (cap - (k + 1)) B) := by
    have h : SlAt (RC cellsV) 11 w (some ⟨b, off, none⟩) cap ((A ++ [(x, fo, fc)]) ++ B) := by simpa using hlv.plain
    have := SlAt.rest h
    rw [List.length_append, hA] at this
    exact this
  have HEN : Aside (∀ z ∈ A ++ B, Fo.EntsAt w z.2.1 z.2.2 z.1.fol) := fun z hz => hlv.ents z (by simp at hz ⊢; rcases hz with h | h <;> simp [h])
  have HLS : Aside ((A ++ B).map (·.1) = less) := hless
  have HA : Aside (A.length = k) := hA
  have HB : Aside (B.length = l.length - (k + 1)) := by show _ = _; omega
  have HAB : Aside ((A ++ B).length = less.length) := by show _ = _; rw [← hless]; simp
  have HY : Aside (BkAt w b (off + k * 11) x fo fc) := hy
  have hhd := fun (wx : World) => run_headB (some ⟨b, off, none⟩) l.length cap k (by omega) wx
  have htl : ∀ wx : World, (Instr.slice 31 (.slice (some ⟨b, off, none⟩) l.length cap) (some (.int .i64 ((k : Int) + 1))) none none).run Try.prog wx = .ok (.slice (tailOf 11 (some ⟨b, off, none⟩) cap (k + 1)) (l.length - (k + 1)) (cap - (k + 1))) wx := fun wx => by
    have := run_tailB (some ⟨b, off, none⟩) l.length cap (k + 1) (by omega) wx
    have ec : ((k + 1 : Nat) : Int) = (k : Int) + 1 := by omega
    rwa [ec] at this
  generalize hta : tailOf 11 (some ⟨b, off, none⟩) cap (k + 1) = tao at HP2 htl
  generalize htb : l.length - (k + 1) = kB at HB htl
  generalize htc : cap - (k + 1) = tcap at HP2 htl
  have hk1 : k ≤ 1353245080300 := by omega
  have hw1 : IntKind.i64.wrap ((k : Int) + 1) = (k : Int) + 1 := by rw [IntKind.wrap_i64]; omega
  have hck : (P.checkE s x != 0) = false := by simp [hck0]
  have HCK0 : Aside (P.checkE s x = 0) := hck0
  clear hta htb htc hd hless hl hlv hy hA el els hz0 hz1 hgone hck0 hlen hlens
  go_enter Try.func4, Try.ntmps4
  go_wp2_with fail
  refine (bookBegun_any _).mono ?_
  rintro e w1 ⟨rfl, hb1⟩
  have hB1 := bvia hb0 hb1
  have HV1 : Aside (VBox w1 w.heap.size s a) := hv0.below hb1
  obtain ⟨x0, x1, x2, x3, x4, x5, x6, x7, x8, x9, x10⟩ := HY.out.below hB1
  obtain ⟨p0, p1, p2, p3⟩ := HV1.out
  have HC : Aside (∀ W : World, Below w1.heap.size w1 W → Calls Try.prog 13 #[V.vsl s a, V.bk x fo fc] W fun e w' => e = .returned (.int .i64 (P.checkE s x)) ∧ Below W.heap.size W w') := fun W hW => bookCheck_any s a x fo fc W (hs.below (bvia hB1 hW)) (SlAt.below Fo.REnt.mono hfy (bvia hB1 hW))
  have r0 := cell_regrown x0
  have r1 := cell_regrown x1
  have r2 := cell_regrown x2
  have r3 := cell_regrown x3
  have r4 := cell_regrown x4
  have r5 := cell_regrown x5
  have r6 := cell_regrown x6
  have r7 := cell_regrown x7
  have r8 := cell_regrown x8
  have r9 := cell_regrown x9
  have r10 := cell_regrown x10
  have t0 := cell_regrown p0
  have t1 := cell_regrown p1
  have t2 := cell_regrown p2
  have t3 := cell_regrown p3
  clear x0 x1 x2 x3 x4 x5 x6 x7 x8 x9 x10 p0 p1 p2 p3 hv0 hb0 hb1
  go_wp2
  refine wp_region_quiet_below (by kernel_rfl) (by kernel_rfl) (Qt.out ?_)
  repeat (refine Qt.step (fun K hK => ?_); go_simp; first | (refine hK _ ?_; clear hK K) | (apply Exists.intro; refine ⟨fun _ => ?_, hK _ ?_⟩; (go_at_call 13; exact Calls.regrown_of (v := .int .i64 (P.checkE s x)) (HC.out _ (below_regrown _ _ _))); clear hK K))
  refine Qt.fin ?_
  intro w2 hw2
  obtain ⟨⟨dq, osq⟩, hw2⟩ := hw2
  have hb2 := below_regrown w1 dq osq
  rw [← hw2] at hb2
  have hB2 := bvia hB1 hb2
  have HV2 : Aside (VBox w2 w.heap.size s a) := HV1.out.below hb2
  have HQ1 : Aside (SlAt (RC cellsV) 11 w2 (some ⟨b, off, none⟩) cap A) := SlAt.below (RC.mono _) HP1.out hB2
  have HQ2 : Aside (SlAt (RC cellsV) 11 w2 tao tcap B) := SlAt.below (RC.mono _) HP2.out hB2
  clear hw2 r0 r1 r2 r3 r4 r5 r6 r7 r8 r9 r10 t0 t1 t2 t3 HC HP1 HP2 HY HV1
  go_wp2_with fail
  go_region_held3 (fun u => True) (exact trivial)
    (first
      | (refine step_of' (by rfl) (wpW_many (cells := cellsV) (size := 11) (base := w2.heap.size) Try.infoBk Try.underlying31 rfl (by decide) cellsV_len cellsV_one _ _ (by rfl) (.slice (some ⟨w2.heap.size, 0, none⟩) 0 0) [] A A k k rfl HA.out HA.out (some ⟨b, off, none⟩) cap (by rfl) (OwnC.below (OwnC.empty (cells := cellsV) (size := 11) (e := 30) w2 w2.heap.size (Nat.le_refl _)) (by go_grown)) (by rfl) (SlAt.below (RC.mono _) HQ1.out (by go_grown)) (by unfold maxLen; omega) (by omega) (by first | (simp; done) | (simp; omega)) ?_); intro ao4 cap4 u4 own4 gr4; have bW : Below w2.heap.size w2 u4 := (OwnC.grown (w := w2) (by go_grown) (OwnC.below (OwnC.empty (cells := cellsV) (size := 11) (e := 30) w2 w2.heap.size (Nat.le_refl _)) (by go_grown)) (Nat.le_refl _) gr4))
      | (refine step_of' (by rfl) (wpW_many (cells := cellsV) (size := 11) (base := w2.heap.size) Try.infoBk Try.underlying31 rfl (by decide) cellsV_len cellsV_one _ _ (by rfl) (.slice ao4 k cap4) A B (A ++ B) kB less.length rfl HB.out HAB.out tao tcap (by rfl) (by first | exact own4 | exact OwnC.below own4 (by go_grown)) (by rfl) (SlAt.below (RC.mono _) HQ2.out (by first | exact bW | exact bvia bW (by go_grown))) (by unfold maxLen; omega) (by omega) (by first | exact bW.size | (have := bW.size; simp; omega)) ?_); intro ao5 cap5 u5 own5 gr5; have bW2 : Below w2.heap.size w2 u5 := (by first | exact OwnC.grown bW own4 (Nat.le_refl _) gr5 | exact OwnC.grown (bvia bW (by go_grown)) (OwnC.below own4 (by go_grown)) (Nat.le_refl _) gr5)))
  all_goals
    obtain ⟨ao6, cap6, e6, h6⟩ := OwnC.at cellsV_len own5
    simp only [Value.slice.injEq] at e6
    obtain ⟨rfl, -, rfl⟩ := e6
    have HLE : Aside (BksAt u5 ao5 cap5 less) := by
      have h := BkVsAt.all (bkvs_of h6 (fun z hz => SlAt.below Fo.REnt.mono (HEN.out z hz) (bvia hB2 bW2)))
      rw [HLS.out] at h
      exact h
    have hB5 := bvia hB2 bW2
    have HV5 : Aside (VBox u5 w.heap.size s a) := HV2.out.below bW2
    clear own4 own5 gr4 gr5 bW h6 HQ1 HQ2 HEN HV2 hhd htl
    obtain ⟨p0, p1, p2, p3⟩ := HV5.out
    go_wp2_with fail
    refine (spans_any s a _ cap l cabin _ (hs.below hB5) (SlAt.below RBk.mono HL.out hB5)).mono ?_
    rintro e w6 ⟨v6, rfl, own6, hb6⟩
    obtain ⟨a6, c6, rfl, s6⟩ := Sp.Own.at own6
    have hB6 := bvia hB5 hb6
    have HV6 : Aside (VBox w6 w.heap.size s a) := HV5.out.below hb6
    clear p0 p1 p2 p3 own6
    obtain ⟨p0, p1, p2, p3⟩ := HV6.out
    go_wp2_with fail
    refine (spans_any s a _ cap5 less cabin _ (hs.below hB6) (SlAt.below RBk.mono HLE.out hb6)).mono ?_
    rintro e w7 ⟨v7, rfl, own7, hb7⟩
    rw [HSP.out.1]
    rw [HSP.out.2] at own7
    obtain ⟨a7, c7, rfl, s7⟩ := Sp.Own.at own7
    have hB7 := bvia hB6 hb7
    have HV7 : Aside (VBox w7 w.heap.size s a) := HV6.out.below hb7
    clear p0 p1 p2 p3 own7
    obtain ⟨p0, p1, p2, p3⟩ := HV7.out
    go_wp2_with fail
    refine (souls_any s a _ cap l _ (hs.below hB7) (SlAt.below RBk.mono HL.out hB7) hL).mono ?_
    rintro e w8 ⟨v8, rfl, own8, hb8⟩
    obtain ⟨a8, c8, rfl, s8⟩ := Ma.OwnI.at own8
    have hB8 := bvia hB7 hb8
    have HV8 : Aside (VBox w8 w.heap.size s a) := HV7.out.below hb8
    clear p0 p1 p2 p3 own8
    obtain ⟨p0, p1, p2, p3⟩ := HV8.out
    go_wp2_with fail
    refine (souls_any s a _ cap5 less _ (hs.below hB8) (SlAt.below RBk.mono HLE.out (bvia hb6 (bvia hb7 hb8))) hLs).mono ?_
    rintro e w9 ⟨v9, rfl, own9, hb9⟩
    rw [HSO.out.1]
    rw [HSO.out.2] at own9
    obtain ⟨a9, c9, rfl, s9⟩ := Ma.OwnI.at own9
    have hB9 := bvia hB8 hb9
    clear p0 p1 p2 p3 own9
    go_wp2_with fail
    refine (Sp.sameSpans_any _ _ _ _ (P.spL s l cabin) (P.spL s l cabin) _ (s6.below (bvia hb7 (bvia hb8 hb9))) (s7.below (bvia hb8 hb9))).mono ?_
    rintro e wa ⟨rfl, hba⟩
    go_wp2_with fail
    refine (Ma.sameInts_any _ _ _ _ (P.soL s l) (P.soL s l) _ (SlAt.below RInt.mono s8 (bvia hb9 hba)) (SlAt.below RInt.mono s9 hba)).mono ?_
    rintro e wb ⟨rfl, hbb⟩
    go_wp2
    go_ret
    exact ⟨rfl, bvia hB9 (bvia hba hbb)⟩

theorem bookGone_walk (s : Vsl) (a : VslA) (ao : Option Addr) (cap : Nat) (l : List Bkg) (n cabin : Int) (w : World) (hs : VslAt w s a) (hl : BksAt w ao cap l) (hL : l.length ≤ 1353245080300) :
    Calls Try.prog 4 #[V.vsl s a, .slice ao l.length cap, .int .i64 n, .int .i64 cabin] w fun e w' => e = .returned (.bool true) ∧ Below w.heap.size w w' := by
  by_cases hout : n < 0 ∨ (l.length : Int) ≤ n
  · exact bookGone_out s a ao cap l n cabin w hs hl hout
  obtain ⟨k, rfl⟩ : ∃ k : Nat, n = k := ⟨n.toNat, by omega⟩
  have hk : k < l.length := by omega
  obtain ⟨lv, hlv, hat⟩ := BksAt.pick hl
  have hlen : lv.length = l.length := by rw [← hlv]; simp
  have hkv : k < lv.length := by omega
  have hx : lv[k]? = some lv[k] := List.getElem?_eq_getElem hkv
  cases hst : (lv[k].1.state != 3)
  · cases hck : (P.checkE s lv[k].1 != 0)
    · have e : lv = lv.take k ++ lv[k] :: lv.drop (k + 1) := by rw [List.getElem_cons_drop]; exact (List.take_append_drop k lv).symm
      rw [e] at hat
      refine bookGone_yes s a ao cap l k cabin w hs (lv.take k) (lv.drop (k + 1)) lv[k] hat ?_ (by simp; omega) hst (by simpa using hck) hL
      rw [← e, hlv]
    · exact bookGone_no s a ao cap l k cabin w hs lv hat hlv hk lv[k] hx (.inr hck)
  · exact bookGone_no s a ao cap l k cabin w hs lv hat hlv hk lv[k] hx (.inl hst)

end Go.Proofs.Ytgopdnlmiloipad.Bk
